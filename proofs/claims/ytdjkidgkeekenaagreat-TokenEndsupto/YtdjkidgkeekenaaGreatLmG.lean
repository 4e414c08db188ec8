/- Run, Finish, turns. -/
import Derived.Test.YtdjkidgkeekenaaGreatLE
import Derived.Test.YtdjkidgkeekenaaGreatTn
namespace Go.Proofs.YtdjkidgkeekenaaGreat
open Go.RowKit Go.Lib Go.MuLone
set_option linter.unusedVariables false
set_option linter.unusedSimpArgs false
/-- What picks have made of the nodes and the arena. -/
inductive Hst (n : Nat) (d0 : Nat → Nd) (s0 : Ast) : (Nat → Nd) → Ast → Prop
  | refl : Hst n d0 s0 d0 s0
  | step {ds : Nat → Nd} {s : Ast} {i K : Nat} (h : Hst n d0 s0 ds s) (hi : i < n) (hI : Inv n K (ds, s.cells)) (hK : K ≤ 1099511627776) : Hst n d0 s0 (stp (ds, s.cells) i).1 (pkd s ds i)
theorem pkd_cells (s : Ast) (ds : Nat → Nd) (i : Nat) : (pkd s ds i).cells = (stp (ds, s.cells) i).2 := by
  unfold pkd stp
  by_cases h : (ds i).ph = 0
  · rw [if_pos h, if_pos h]
  · rw [if_neg h, if_neg h]; rfl
theorem Hst.trans {n : Nat} {d0 d1 d2 : Nat → Nd} {s0 s1 s2 : Ast} (h : Hst n d0 s0 d1 s1) (k : Hst n d1 s1 d2 s2) : Hst n d0 s0 d2 s2 := by
  induction k with
  | refl => exact h
  | step _ hi hI hK ih => exact ih.step hi hI hK
theorem Hst.over {n : Nat} {d0 ds : Nat → Nd} {s0 s : Ast} (h : Hst n d0 s0 ds s) (ho : Ov n d0) : ds = d0 ∧ s = s0 := by
  induction h with
  | refl => exact ⟨rfl, rfl⟩
  | step _ hi _ _ ih =>
    obtain ⟨rfl, rfl⟩ := ih
    exact ⟨congrArg Prod.fst (Ov.same (σ := (_, _)) ho hi), if_pos (ho _ hi)⟩
section
variable {w wr wr' : World} {X b gc Y Z n lb sb K K' : Nat} {lv lv' vN : Value} {s s' : Ast} {qs rs : Nat → Nat} {sv : Nat → Value} {gs : Nat → Bool} {ds : Nat → Nd} {mv : Nat → Int}
theorem LMm.monoN (h : LMm w wr X b gc Y Z n lb sb lv s vN qs rs sv gs ds mv K) : ∀ m, LMm w wr X b gc Y Z n lb sb lv s vN qs rs sv gs ds mv (K + m)
  | 0 => h
  | m + 1 => (LMm.monoN h m).mono
set_option maxRecDepth 100000 in
set_option maxHeartbeats 4000000 in
theorem run_full (h : LMm w wr X b gc Y Z n lb sb lv s vN qs rs sv gs ds mv K) (po : Option Addr) (pc : Nat) (pk : List Int) (hp : RowAt .i64 w (.slice po pk.length pc) pk) (hpl : pk.length ≤ 1048576) (hK : K + pk.length ≤ 1099511627776) :
    Calls Tryz.prog 19 #[.pointer (some ⟨lb, 0, none⟩), .slice po pk.length pc] wr fun r w' => (∃ v, r = .returned v) ∧ ∃ lv' s' gs' ds' mv', LMm w w' X b gc Y Z n lb sb lv' s' vN qs rs sv gs' ds' mv' (K + pk.length) ∧ Hst n ds s ds' s' ∧ Kp gc wr w' := by
  have hn1 := h.n64
  have HPK := hide (fun W (hb : Below w.heap.size w W) => hp.below hb)
  obtain ⟨m, hm⟩ : ∃ m, m = pk.length := ⟨_, rfl⟩
  have HM := hide hm
  rw [← hm] at hpl HPK hK ⊢
  have H := hide h
  clear h hp hm
  go_enter Tryz.func19, Tryz.ntmps19
  go_wp2_with fail
  go_loopw [5, 10] (fun aw t wq => ∃ (k f : Nat) (lv1 : Value) (s1 : Ast) (gs1 : Nat → Bool) (ds1 : Nat → Nd) (mv1 : Nat → Int), k ≤ m ∧ f ≤ n ∧ aw = .int .i64 (f : Int) ∧ t = .int .i64 (k : Int) ∧ Hid (LMm w wq X b gc Y Z n lb sb lv1 s1 vN qs rs sv gs1 ds1 mv1 (K + k)) ∧ Hid (Hst n ds s ds1 s1) ∧ Hid (Kp gc wr wq)) (fun _ t _ => m - (RowKit.intOf t).toNat)
  case atStart => exact ⟨0, 0, lv, s, gs, ds, mv, Nat.zero_le _, Nat.zero_le _, rfl, rfl, H.out, .refl, Kp.refl _ _⟩
  case round =>
    obtain ⟨k, f, lv1, s1, gs1, ds1, mv1, hkm, hfn, rfl, rfl, HL, HH, HKP⟩ := hrel
    by_cases hlt : k < m
    · have hki : (k : Int) < (m : Int) := by omega
      obtain ⟨gp, op, cp, hpe, hpc, hpv⟩ := (HPK.out wr HL.out.bel).cellAt k (by rw [← HM.out]; exact hlt)
      simp only [Value.slice.injEq] at hpe
      obtain ⟨he1, he2, he3⟩ := hpe
      clear he2
      subst he1 he3
      obtain ⟨x, hx⟩ : ∃ x, x = at_ pk k := ⟨_, rfl⟩
      rw [← hx] at hpv
      obtain ⟨i, hi, hin⟩ : ∃ i : Nat, x % (n : Int) = (i : Int) ∧ i < n := ⟨(x % (n : Int)).toNat, by
        have := Int.emod_nonneg x (show (n : Int) ≠ 0 by omega); omega, by
        have := Int.emod_nonneg x (show (n : Int) ≠ 0 by omega); have := Int.emod_lt_of_pos x (show (0 : Int) < (n : Int) by omega); omega⟩
      have HAW := hide (awake_any HL.out hfn)
      clear hx
      go_wp2_with fail
      refine HAW.out.mono ?_
      rintro e w2 ⟨v, rfl, hv, h2, k2⟩
      have HK2 := hide (HKP.out.trans k2)
      clear k2
      have H2 := hide h2
      clear h2 hpv HAW
      rcases hv with ⟨rfl, hv⟩ | ⟨g, rfl, hg, hv⟩
      · clear hv
        go_wp2_with fail
        go_ret
        obtain ⟨d, rfl⟩ : ∃ d, m = k + d := ⟨m - k, by omega⟩
        exact ⟨⟨_, rfl⟩, _, _, _, _, _, by rw [← Nat.add_assoc]; exact H2.out.monoN d, HH.out, HK2.out⟩
      · have hng : ¬ (g : Int) < 0 := by omega
        have HPI := hide (pick_any H2.out x hi hin (by omega))
        clear hv hi
        go_wp2_with fail
        refine HPI.out.mono ?_
        rintro e w3 ⟨rfl, lv3, gs3, mv3, h3, k3⟩
        have HK3 := hide (HK2.out.trans k3)
        clear k3
        have H3 := hide h3
        have HI2 := hide H2.out.inv
        clear h3 HPI H2
        go_wp2_with fail
        exact ⟨⟨k + 1, g, lv3, _, gs3, _, mv3, by omega, by omega, rfl, by simp, H3, HH.out.step hin HI2.out (by omega), HK3.out⟩, by simp [RowKit.intOf]; omega⟩
    · have hki : ¬ (k : Int) < (m : Int) := by omega
      obtain rfl : k = m := by omega
      go_wp2_with fail
      go_ret
      exact ⟨⟨_, rfl⟩, _, _, _, _, ⟨_, HL.out⟩, HH.out, HKP.out⟩
theorem run_any (h : LMm w wr X b gc Y Z n lb sb lv s vN qs rs sv gs ds mv K) (po : Option Addr) (pc : Nat) (pk : List Int) (hp : RowAt .i64 w (.slice po pk.length pc) pk) (hpl : pk.length ≤ 1048576) (hK : K + pk.length ≤ 1099511627776) :
    Calls Tryz.prog 19 #[.pointer (some ⟨lb, 0, none⟩), .slice po pk.length pc] wr fun r w' => (∃ v, r = .returned v) ∧ ∃ lv' s' gs' ds' mv', LMm w w' X b gc Y Z n lb sb lv' s' vN qs rs sv gs' ds' mv' (K + pk.length) ∧ Hst n ds s ds' s' :=
  (run_full h po pc pk hp hpl hK).mono fun _ _ ⟨a, lv, s, gs, ds, mv, h, k, _⟩ => ⟨a, lv, s, gs, ds, mv, h, k⟩
theorem stp_pkd (s : Ast) (ds : Nat → Nd) (i : Nat) : ((stp (ds, s.cells) i).1, (pkd s ds i).cells) = stp (ds, s.cells) i := by rw [pkd_cells]
set_option maxRecDepth 100000 in
set_option maxHeartbeats 4000000 in
theorem finish_full (h : LMm w wr X b gc Y Z n lb sb lv s vN qs rs sv gs ds mv K) (most : Nat) (hK : K + most ≤ 1099511627776) (hfin : Ov n (trn n (ds, s.cells) 0 most).1) :
    Calls Tryz.prog 20 #[.pointer (some ⟨lb, 0, none⟩), .int .i64 most] wr fun r w' => (∃ v, r = .returned v) ∧ ∃ lv' s' gs' ds' mv', LMm w w' X b gc Y Z n lb sb lv' s' vN qs rs sv gs' ds' mv' (K + most) ∧ Hst n ds s ds' s' ∧ Ov n ds' ∧ Kp gc wr w' := by
  have hn1 := h.n64
  have H := hide h
  have HF := hide hfin
  have hmx : max (most : Int) 0 = (most : Int) := by omega
  clear h hfin
  go_enter Tryz.func20, Tryz.ntmps20
  go_wp2_with fail
  go_loopw [5, 9] (fun aw t wq => ∃ (k f : Nat) (lv1 : Value) (s1 : Ast) (gs1 : Nat → Bool) (ds1 : Nat → Nd) (mv1 : Nat → Int), k ≤ most ∧ f ≤ n ∧ aw = .int .i64 (f : Int) ∧ t = .int .i64 (k : Int) ∧ Hid (LMm w wq X b gc Y Z n lb sb lv1 s1 vN qs rs sv gs1 ds1 mv1 (K + k)) ∧ Hid (Hst n ds s ds1 s1) ∧ Hid ((ds1, s1.cells) = trn n (ds, s.cells) 0 k) ∧ Hid (Kp gc wr wq)) (fun _ t _ => most - (RowKit.intOf t).toNat)
  case atStart => exact ⟨0, 0, lv, s, gs, ds, mv, Nat.zero_le _, Nat.zero_le _, rfl, rfl, H.out, .refl, rfl, Kp.refl _ _⟩
  case round =>
    obtain ⟨k, f, lv1, s1, gs1, ds1, mv1, hkm, hfn, rfl, rfl, HL, HH, HT, HKP⟩ := hrel
    by_cases hlt : k < most
    · have hki : (k : Int) < (most : Int) := by omega
      have hin : k % n < n := Nat.mod_lt _ (by omega)
      have hi : (k : Int) % (n : Int) = ((k % n : Nat) : Int) := by simp
      have HAW := hide (awake_any HL.out hfn)
      go_wp2_with fail
      refine HAW.out.mono ?_
      rintro e w2 ⟨v, rfl, hv, h2, k2⟩
      have HK2 := hide (HKP.out.trans k2)
      clear k2
      have H2 := hide h2
      clear h2 HAW
      rcases hv with ⟨rfl, hv⟩ | ⟨g, rfl, hg, hv⟩
      · have HV := hide hv
        clear hv hi
        go_wp2_with fail
        go_ret
        obtain ⟨d, rfl⟩ : ∃ d, most = k + d := ⟨most - k, by omega⟩
        exact ⟨⟨_, rfl⟩, _, _, _, _, _, by rw [← Nat.add_assoc]; exact H2.out.monoN d, HH.out, HV.out, HK2.out⟩
      · have hng : ¬ (g : Int) < 0 := by omega
        have HPI := hide (pick_any H2.out (k : Int) hi hin (by omega))
        clear hv hi
        go_wp2_with fail
        refine HPI.out.mono ?_
        rintro e w3 ⟨rfl, lv3, gs3, mv3, h3, k3⟩
        have HK3 := hide (HK2.out.trans k3)
        clear k3
        have H3 := hide h3
        have HI2 := hide H2.out.inv
        clear h3 HPI H2
        go_wp2_with fail
        exact ⟨⟨k + 1, g, lv3, _, gs3, _, mv3, by omega, by omega, rfl, by simp, H3, HH.out.step hin HI2.out (by omega), by
          show ((stp (ds1, s1.cells) (k % n)).1, (pkd s1 ds1 (k % n)).cells) = stp (trn n (ds, s.cells) 0 k) ((0 + k) % n)
          rw [stp_pkd, Nat.zero_add, ← HT.out], HK3.out⟩, by simp [RowKit.intOf]; omega⟩
    · have hki : ¬ (k : Int) < (most : Int) := by omega
      obtain rfl : k = most := by omega
      go_wp2_with fail
      go_ret
      have ho := HF.out
      rw [← HT.out] at ho
      first
        | exact ⟨⟨_, rfl⟩, _, _, _, _, ⟨_, HL.out⟩, HH.out, ho, HKP.out⟩
        | exact ⟨⟨_, rfl⟩, _, _, _, _, _, HL.out, HH.out, ho, HKP.out⟩
theorem finish_any (h : LMm w wr X b gc Y Z n lb sb lv s vN qs rs sv gs ds mv K) (most : Nat) (hK : K + most ≤ 1099511627776) (hfin : Ov n (trn n (ds, s.cells) 0 most).1) :
    Calls Tryz.prog 20 #[.pointer (some ⟨lb, 0, none⟩), .int .i64 most] wr fun r w' => (∃ v, r = .returned v) ∧ ∃ lv' s' gs' ds' mv', LMm w w' X b gc Y Z n lb sb lv' s' vN qs rs sv gs' ds' mv' (K + most) ∧ Hst n ds s ds' s' ∧ Ov n ds' :=
  (finish_full h most hK hfin).mono fun _ _ ⟨a, lv, s, gs, ds, mv, h, k, o, _⟩ => ⟨a, lv, s, gs, ds, mv, h, k, o⟩
end
end Go.Proofs.YtdjkidgkeekenaaGreat
