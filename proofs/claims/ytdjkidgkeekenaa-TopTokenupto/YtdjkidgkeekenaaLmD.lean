/- The loom's calls: who is awake, Over. -/
import Derived.Test.YtdjkidgkeekenaaLmC
namespace Go.Proofs.Ytdjkidgkeekenaa
open Go.RowKit Go.Lib Go.MuLone
set_option linter.unusedVariables false
set_option linter.unusedSimpArgs false
section
variable {w wr wr' : World} {X b gc Y Z n lb sb K : Nat} {lv lv' vN : Value} {s s' : Ast} {qs rs : Nat → Nat} {sv : Nat → Value} {gs : Nat → Bool} {ds : Nat → Nd} {mv : Nat → Int}
/-- Everyone has been looked at, from f on. -/
theorem all_of_turn {p : Nat → Prop} {n f : Nat} (hn : 0 < n) (h : ∀ j, j < n → p ((f + j) % n)) (i : Nat) (hi : i < n) : p i := by
  have h1 := Nat.mod_lt f hn
  have := h ((i + (n - f % n)) % n) (Nat.mod_lt _ hn)
  rwa [Nat.add_mod_mod, show f + (i + (n - f % n)) = i + n + n * (f / n) by
    have := Nat.div_add_mod f n
    omega, Nat.add_mul_mod_self_left, Nat.add_mod_right, Nat.mod_eq_of_lt hi] at this
set_option maxRecDepth 100000 in
set_option maxHeartbeats 4000000 in
theorem awake_any (h : LMm w wr X b gc Y Z n lb sb lv s vN qs rs sv gs ds mv K) {f : Nat} (hf : f ≤ n) :
    Calls Try.prog 23 #[.pointer (some ⟨lb, 0, none⟩), .int .i64 f] wr fun r w' => ∃ v : Int, r = .returned (.int .i64 v) ∧ (v = -1 ∧ (∀ j, j < n → (ds j).ph = 0) ∨ ∃ g : Nat, v = g ∧ g < n ∧ (ds g).ph ≠ 0) ∧ LMm w w' X b gc Y Z n lb sb lv s vN qs rs sv gs ds mv K ∧ Kp gc wr w' := by
  have hn := h.n64
  have H := hide h
  obtain ⟨x0, x1, _, _, _, _⟩ := h.cells (show 0 < n by omega)
  have HSP := hide (stopped_any h)
  clear h
  go_enter Try.func23, Try.ntmps23
  go_wp2_with fail
  refine HSP.out.mono ?_
  rintro e w1 ⟨rfl, h1, k1⟩
  have H1 := hide h1
  have HK1 := hide k1
  clear x0 x1 HSP h1 k1
  obtain ⟨x0, x1, _, _, _, _⟩ := H1.out.cells (show 0 < n by omega)
  go_wp2_with fail
  go_loopw [17] (fun t wq => ∃ i : Nat, i ≤ n ∧ t = .int .i64 (i : Int) ∧ wq = w1 ∧ ∀ j, j < i → (ds ((f + j) % n)).ph = 0) (fun t _ => n - (RowKit.intOf t).toNat)
  case atStart => exact ⟨0, Nat.zero_le _, rfl, rfl, fun j hj => by omega⟩
  case round =>
    obtain ⟨i, hi, rfl, rfl, hall⟩ := hrel
    have HALL := hide hall
    clear hall
    by_cases hlt : i < n
    · have hli : (i : Int) < (n : Int) := by omega
      have hne : ¬ (n : Int) = 0 := by omega
      obtain ⟨g, hg⟩ : ∃ g, g = (f + i) % n := ⟨_, rfl⟩
      have hgn : g < n := hg ▸ Nat.mod_lt _ (by omega)
      have hgi : (g : Int) < (n : Int) := by omega
      have hmod : ((f : Int) + (i : Int)).tmod (n : Int) = (g : Int) := by
        rw [hg, Int.tmod_eq_emod_of_nonneg (by omega)]
        simp
      have HG := hide hg
      obtain ⟨_, _, x2, _, _, _⟩ := H1.out.cells hgn
      have hm := fun w => Try.mOver (.pointer (some ⟨qs g, 0, none⟩)) w
      unfold mV at x2
      have HO := hide (lm_over H1.out hgn)
      clear hg
      by_cases h0 : (ds g).ph = 0
      · rw [decide_eq_true h0] at HO
        go_wp2_with fail
        refine HO.out.mono ?_
        rintro e w3 ⟨rfl, rfl⟩
        go_wp2_with fail
        exact ⟨⟨i + 1, by omega, by simp, by simp, fun j hj => by
          rcases Nat.lt_or_ge j i with q | q
          · exact HALL.out j q
          · rw [show j = i by omega, ← HG.out]; exact h0⟩, by simp [RowKit.intOf]; omega⟩
      · rw [decide_eq_false h0] at HO
        go_wp2_with fail
        refine HO.out.mono ?_
        rintro e w3 ⟨rfl, rfl⟩
        go_wp2_with fail
        go_ret
        exact ⟨_, rfl, .inr ⟨g, rfl, hgn, h0⟩, H1.out, HK1.out⟩
    · have hli : ¬ (i : Int) < (n : Int) := by omega
      go_wp2_with fail
      go_ret
      exact ⟨_, rfl, .inl ⟨rfl, fun j hj => all_of_turn (p := fun j => (ds j).ph = 0) (by omega) (fun j hj => HALL.out j (by omega)) j hj⟩, H1.out, HK1.out⟩
set_option maxRecDepth 100000 in
theorem lover_any (h : LMm w wr X b gc Y Z n lb sb lv s vN qs rs sv gs ds mv K) :
    Calls Try.prog 9 #[.pointer (some ⟨lb, 0, none⟩)] wr fun r w' => ∃ o : Bool, r = .returned (.bool o) ∧ (o = true ↔ ∀ j, j < n → (ds j).ph = 0) ∧ LMm w w' X b gc Y Z n lb sb lv s vN qs rs sv gs ds mv K ∧ Kp gc wr w' := by
  have HA := hide (awake_any h (Nat.zero_le n))
  have H := hide h
  clear h
  go_enter Try.func9, Try.ntmps9
  go_wp2_with fail
  refine HA.out.mono ?_
  rintro e w1 ⟨v, rfl, hv, h1, k1⟩
  have H1 := hide h1
  have HK1 := hide k1
  clear h1 k1
  rcases hv with ⟨rfl, hv⟩ | ⟨g, rfl, hg, hv⟩
  · have HV := hide hv
    clear hv
    go_wp2_with fail
    go_ret
    exact ⟨_, rfl, ⟨fun _ => HV.out, fun _ => rfl⟩, H1.out, HK1.out⟩
  · have hng : ¬ (g : Int) < 0 := by omega
    have HV := hide hv
    clear hv
    go_wp2_with fail
    go_ret
    exact ⟨_, rfl, ⟨fun e => by first | (simp at e; omega) | simp at e, fun q => absurd (q g hg) HV.out⟩, H1.out, HK1.out⟩
end
end Go.Proofs.Ytdjkidgkeekenaa
