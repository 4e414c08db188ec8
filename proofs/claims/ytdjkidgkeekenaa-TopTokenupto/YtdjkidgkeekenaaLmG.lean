/- Run, Finish, turns. -/
import Derived.Test.YtdjkidgkeekenaaLE
import Derived.Test.YtdjkidgkeekenaaTn
namespace Go.Proofs.Ytdjkidgkeekenaa
open Go.RowKit Go.Lib Go.MuLone
set_option linter.unusedVariables false
set_option linter.unusedSimpArgs false
/-- What picks have made of the nodes and the arena. -/
inductive Hst (n : Nat) (d0 : Nat → Nd) (s0 : Ast) : (Nat → Nd) → Ast → Prop
  | refl : Hst n d0 s0 d0 s0
  | step {ds : Nat → Nd} {s : Ast} {i K : Nat} (h : Hst n d0 s0 ds s) (hi : i < n) (hI : Inv n K (ds, s.cells)) (hK : K ≤ 1099511627776) : Hst n d0 s0 (stp (ds, s.cells) i).1 (pkd s ds i)
theorem pkd_cells (s : Ast) (ds : Nat → Nd) (i : Nat) : (pkd s ds i).cells = (stp (ds, s.cells) i).2 := by
  unfold pkd stp
  by_cases h : (ds i).ph = 0
  · rw [if_pos h, if_pos h]
  · rw [if_neg h, if_neg h]; rfl
theorem Hst.trans {n : Nat} {d0 d1 d2 : Nat → Nd} {s0 s1 s2 : Ast} (h : Hst n d0 s0 d1 s1) (k : Hst n d1 s1 d2 s2) : Hst n d0 s0 d2 s2 := by
  induction k with
  | refl => exact h
  | step _ hi hI hK ih => exact ih.step hi hI hK
theorem Hst.over {n : Nat} {d0 ds : Nat → Nd} {s0 s : Ast} (h : Hst n d0 s0 ds s) (ho : Ov n d0) : ds = d0 ∧ s = s0 := by
  induction h with
  | refl => exact ⟨rfl, rfl⟩
  | step _ hi _ _ ih =>
    obtain ⟨rfl, rfl⟩ := ih
    exact ⟨congrArg Prod.fst (Ov.same (σ := (_, _)) ho hi), if_pos (ho _ hi)⟩
section
variable {w wr wr' : World} {X b gc Y Z n lb sb K K' : Nat} {lv lv' vN : Value} {s s' : Ast} {qs rs : Nat → Nat} {sv : Nat → Value} {gs : Nat → Bool} {ds : Nat → Nd} {mv : Nat → Int}
theorem LMm.monoN (h : LMm w wr X b gc Y Z n lb sb lv s vN qs rs sv gs ds mv K) : ∀ m, LMm w wr X b gc Y Z n lb sb lv s vN qs rs sv gs ds mv (K + m)
  | 0 => h
  | m + 1 => (LMm.monoN h m).mono
theorem stp_pkd (s : Ast) (ds : Nat → Nd) (i : Nat) : ((stp (ds, s.cells) i).1, (pkd s ds i).cells) = stp (ds, s.cells) i := by rw [pkd_cells]
set_option maxRecDepth 100000 in
set_option maxHeartbeats 4000000 in
theorem finish_full (h : LMm w wr X b gc Y Z n lb sb lv s vN qs rs sv gs ds mv K) (most : Nat) (hK : K + most ≤ 1099511627776) (hfin : Ov n (trn n (ds, s.cells) 0 most).1) :
    Calls Try.prog 8 #[.pointer (some ⟨lb, 0, none⟩), .int .i64 most] wr fun r w' => (∃ v, r = .returned v) ∧ ∃ lv' s' gs' ds' mv', LMm w w' X b gc Y Z n lb sb lv' s' vN qs rs sv gs' ds' mv' (K + most) ∧ Hst n ds s ds' s' ∧ Ov n ds' ∧ Kp gc wr w' := by
  have hn1 := h.n64
  have H := hide h
  have HF := hide hfin
  have hmx : max (most : Int) 0 = (most : Int) := by omega
  clear h hfin
  go_enter Try.func8, Try.ntmps8
  go_wp2_with fail
  go_loopw [5, 9] (fun aw t wq => ∃ (k f : Nat) (lv1 : Value) (s1 : Ast) (gs1 : Nat → Bool) (ds1 : Nat → Nd) (mv1 : Nat → Int), k ≤ most ∧ f ≤ n ∧ aw = .int .i64 (f : Int) ∧ t = .int .i64 (k : Int) ∧ Hid (LMm w wq X b gc Y Z n lb sb lv1 s1 vN qs rs sv gs1 ds1 mv1 (K + k)) ∧ Hid (Hst n ds s ds1 s1) ∧ Hid ((ds1, s1.cells) = trn n (ds, s.cells) 0 k) ∧ Hid (Kp gc wr wq)) (fun _ t _ => most - (RowKit.intOf t).toNat)
  case atStart => exact ⟨0, 0, lv, s, gs, ds, mv, Nat.zero_le _, Nat.zero_le _, rfl, rfl, H.out, .refl, rfl, Kp.refl _ _⟩
  case round =>
    obtain ⟨k, f, lv1, s1, gs1, ds1, mv1, hkm, hfn, rfl, rfl, HL, HH, HT, HKP⟩ := hrel
    by_cases hlt : k < most
    · have hki : (k : Int) < (most : Int) := by omega
      have hin : k % n < n := Nat.mod_lt _ (by omega)
      have hi : (k : Int) % (n : Int) = ((k % n : Nat) : Int) := by simp
      have HAW := hide (awake_any HL.out hfn)
      go_wp2_with fail
      refine HAW.out.mono ?_
      rintro e w2 ⟨v, rfl, hv, h2, k2⟩
      have HK2 := hide (HKP.out.trans k2)
      clear k2
      have H2 := hide h2
      clear h2 HAW
      rcases hv with ⟨rfl, hv⟩ | ⟨g, rfl, hg, hv⟩
      · have HV := hide hv
        clear hv hi
        go_wp2_with fail
        go_ret
        obtain ⟨d, rfl⟩ : ∃ d, most = k + d := ⟨most - k, by omega⟩
        exact ⟨⟨_, rfl⟩, _, _, _, _, _, by rw [← Nat.add_assoc]; exact H2.out.monoN d, HH.out, HV.out, HK2.out⟩
      · have hng : ¬ (g : Int) < 0 := by omega
        have HPI := hide (pick_any H2.out (k : Int) hi hin (by omega))
        clear hv hi
        go_wp2_with fail
        refine HPI.out.mono ?_
        rintro e w3 ⟨rfl, lv3, gs3, mv3, h3, k3⟩
        have HK3 := hide (HK2.out.trans k3)
        clear k3
        have H3 := hide h3
        have HI2 := hide H2.out.inv
        clear h3 HPI H2
        go_wp2_with fail
        exact ⟨⟨k + 1, g, lv3, _, gs3, _, mv3, by omega, by omega, rfl, by simp, H3, HH.out.step hin HI2.out (by omega), by
          show ((stp (ds1, s1.cells) (k % n)).1, (pkd s1 ds1 (k % n)).cells) = stp (trn n (ds, s.cells) 0 k) ((0 + k) % n)
          rw [stp_pkd, Nat.zero_add, ← HT.out], HK3.out⟩, by simp [RowKit.intOf]; omega⟩
    · have hki : ¬ (k : Int) < (most : Int) := by omega
      obtain rfl : k = most := by omega
      go_wp2_with fail
      go_ret
      have ho := HF.out
      rw [← HT.out] at ho
      first
        | exact ⟨⟨_, rfl⟩, _, _, _, _, ⟨_, HL.out⟩, HH.out, ho, HKP.out⟩
        | exact ⟨⟨_, rfl⟩, _, _, _, _, _, HL.out, HH.out, ho, HKP.out⟩
theorem finish_any (h : LMm w wr X b gc Y Z n lb sb lv s vN qs rs sv gs ds mv K) (most : Nat) (hK : K + most ≤ 1099511627776) (hfin : Ov n (trn n (ds, s.cells) 0 most).1) :
    Calls Try.prog 8 #[.pointer (some ⟨lb, 0, none⟩), .int .i64 most] wr fun r w' => (∃ v, r = .returned v) ∧ ∃ lv' s' gs' ds' mv', LMm w w' X b gc Y Z n lb sb lv' s' vN qs rs sv gs' ds' mv' (K + most) ∧ Hst n ds s ds' s' ∧ Ov n ds' :=
  (finish_full h most hK hfin).mono fun _ _ ⟨a, lv, s, gs, ds, mv, h, k, o, _⟩ => ⟨a, lv, s, gs, ds, mv, h, k, o⟩
end
end Go.Proofs.Ytdjkidgkeekenaa
