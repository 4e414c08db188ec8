/- The program's Var, with its error. -/
import Derived.Test.YtpfpelhhebafeaaDoorRdA
namespace Go.Proofs.YtpfpelhhebafeaaDoor
open Go.RowKit Go.Lib
set_option linter.unusedVariables false
set_option linter.unusedSimpArgs false
theorem varA_of {bs : List Int} {p : Nat} {a : Nat × Int × Nat} (h : vr (bs.drop p) 0 0 = a) : varA bs p = (a.1, a.2.1, p + a.2.2) := by unfold varA; rw [h]
theorem vr_at {bs : List Int} {j i a b : Nat} (hj : j < bs.length) (hb : bs[j]?.getD 0 = (b : Int)) :
    vr (bs.drop j) i a = if i = 9 ∧ 1 < b then (0, 2, 0) else if b < 128 then (if b = 0 ∧ 0 < i then (0, 3, 0) else (a + b % 128 * 2 ^ (7 * i), 0, i + 1)) else vr (bs.drop (j + 1)) (i + 1) (a + b % 128 * 2 ^ (7 * i)) := by
  rw [List.drop_eq_getElem_cons hj]
  have e : bs[j] = (b : Int) := by rw [List.getElem?_eq_getElem hj] at hb; simpa using hb
  rw [e]
  simp [vr]
theorem vr_end {bs : List Int} {j i a : Nat} (hj : bs.length ≤ j) : vr (bs.drop j) i a = (0, 1, 0) := by
  rw [List.drop_eq_nil_of_le hj]; rfl
theorem var_room {acc b i : Nat} (hvl : acc < 2 ^ (7 * i)) (hl9 : i ≤ 9) (hb : b < 256) (hlong : ¬ (i = 9 ∧ 1 < b)) : acc + b % 128 * 2 ^ (7 * i) < 18446744073709551616 := by
  rcases Nat.lt_or_ge i 9 with h | h
  · have h1 : 2 ^ (7 * i) ≤ 2 ^ 56 := Nat.pow_le_pow_right (by decide) (by omega)
    have h2 : b % 128 * 2 ^ (7 * i) ≤ 127 * 2 ^ 56 := Nat.mul_le_mul (by omega) h1
    have h3 : (2 : Nat) ^ 56 = 72057594037927936 := by decide
    omega
  · have e9 : i = 9 := by omega
    have h3 : (2 : Nat) ^ (7 * 9) = 9223372036854775808 := by decide
    rw [e9] at hvl ⊢
    rw [h3] at hvl ⊢
    have h4 : b % 128 ≤ 1 := by omega
    have h5 : b % 128 * 9223372036854775808 ≤ 1 * 9223372036854775808 := Nat.mul_le_mul_right _ h4
    omega
theorem var_pow {acc b i : Nat} (hvl : acc < 2 ^ (7 * i)) : acc + b % 128 * 2 ^ (7 * i) < 2 ^ (7 * (i + 1)) := by
  rw [show 7 * (i + 1) = 7 + 7 * i by omega, Nat.pow_add, show (2 : Nat) ^ 7 = 128 by decide]
  have h2 : b % 128 * 2 ^ (7 * i) ≤ 127 * 2 ^ (7 * i) := Nat.mul_le_mul_right _ (by omega)
  omega
/-- What a reader's Var has made. -/
def VP (w : World) (r p : Nat) (bs : List Int) (e : Ending) (w' : World) : Prop :=
  e = .returned (.tuple #[.int .u64 ((varA bs p).1 : Nat), .int .i64 (varA bs p).2.1]) ∧ RdIs w' r bs (varA bs p).2.2 ∧ But r w w'
theorem VP.bad {w w' : World} {r p : Nat} {bs : List Int} {er : Int} (h : RdIs w r bs p) (hv : vr (bs.drop p) 0 0 = (0, er, 0)) (hb : Below w.heap.size w w') : VP w r p bs (.returned (.tuple #[.int .u64 0, .int .i64 er])) w' := by
  unfold VP
  rw [varA_of hv]
  exact ⟨rfl, h.below hb, But.of_below hb⟩
theorem VP.good {w w' : World} {r p v n : Nat} {bs : List Int} (hv : vr (bs.drop p) 0 0 = (v, 0, n)) (h : RdIs w' r bs (p + n) ∧ But r w w') : VP w r p bs (.returned (.tuple #[.int .u64 (v : Int), .int .i64 0])) w' := by
  unfold VP
  rw [varA_of hv]
  exact ⟨rfl, h⟩
set_option maxRecDepth 100000 in
set_option maxHeartbeats 2000000 in
theorem prd_var (w : World) (r p : Nat) (bs : List Int) (h : RdIs w r bs p) (hp : p ≤ bs.length) (hby : Byt bs) (hbig : bs.length ≤ 175921860444160) :
    Calls Tryd.prog 41 #[.pointer (some ⟨r, 0, none⟩)] w (VP w r p bs) := by
  have HRD := hide h
  obtain ⟨ao, c, hh, hrow, hao⟩ := h
  rcases hao with rfl | ⟨g, rfl, hgr⟩
  · have hbs : bs = [] := by
      obtain ⟨ao', c', he, h1, _, h3, _⟩ := hrow
      simp only [Value.slice.injEq] at he
      obtain ⟨rfl, _, rfl⟩ := he
      have h5 := h3 rfl
      exact List.eq_nil_of_length_eq_zero (by omega)
    subst hbs
    obtain rfl : p = 0 := by simpa using hp
    obtain rfl : c = 0 := by
      obtain ⟨ao', c', he, h1, _, h3, _⟩ := hrow
      simp only [Value.slice.injEq] at he
      obtain ⟨rfl, _, rfl⟩ := he
      exact h3 rfl
    have c0 := cell_of hh (i := 0) rfl
    have c1 := cell_of hh (i := 1) rfl
    clear hh hrow hbig hp hby
    go_enter Tryd.func41, Tryd.ntmps41
    go_wp2
    go_region
    go_wp2
    refine wp_loop_rounds 1 ?_
    rw [rounds_succ]
    go_wp2
    go_ret2
    exact VP.bad HRD.out rfl (Below.refl _ _).drew
  have HH := hide hh
  have HROW := hide hrow
  have c0 := cell_of hh (i := 0) rfl
  have c1 := cell_of hh (i := 1) rfl
  have f1 := free_of hh 1
  have hcl : bs.length ≤ c := by
    obtain ⟨ao', c', he, h1, _⟩ := hrow
    simp only [Value.slice.injEq] at he
    obtain ⟨_, _, rfl⟩ := he
    exact h1
  have HC : Hid (∀ j, j < bs.length → w.cell? ⟨g, j, none⟩ = some (.int .u8 (bs[j]?.getD 0))) := fun j hj => by
    obtain ⟨ao', c', he, _, _, _, h4⟩ := hrow
    simp only [Value.slice.injEq] at he
    obtain ⟨rfl, _, rfl⟩ := he
    have := h4 _ rfl j hj
    rw [Addr.add_lit, Nat.zero_add] at this
    simpa [List.getD] using this
  obtain ⟨L, hL⟩ : ∃ L, L = bs.length := ⟨_, rfl⟩
  rw [← hL] at HC hcl hp hbig c0
  have HBB := hide hby
  have HL := hide hL
  have hpi : (p : Int) ≤ (L : Int) := by omega
  have hpc : (L : Int) ≤ (c : Int) := by omega
  clear hh hrow hby hL
  by_cases hpL : p = L
  · clear HBB HC
    have HE : Hid (vr (bs.drop p) 0 0 = (0, 1, 0)) := hide (vr_end (by rw [← HL.out]; omega))
    have hz : L - p = 0 := by omega
    by_cases hpc2 : p = c
    · have hzz : ((L - p : Nat) : Int) = 0 := by omega
      go_enter Tryd.func41, Tryd.ntmps41
      go_wp2
      go_region
      all_goals
        go_wp2
        refine wp_loop_rounds 1 ?_
        rw [rounds_succ]
        go_wp2
        go_ret2
        exact VP.bad HRD.out HE.out (Below.refl _ _).drew
    · have hzz : ((L - p : Nat) : Int) = 0 := by omega
      go_enter Tryd.func41, Tryd.ntmps41
      go_wp2
      go_region
      all_goals
        go_wp2
        refine wp_loop_rounds 1 ?_
        rw [rounds_succ]
        go_wp2
        go_ret2
        exact VP.bad HRD.out HE.out (Below.refl _ _).drew
  have hpl : p < L := by omega
  go_enter Tryd.func41, Tryd.ntmps41
  go_wp2
  go_region
  go_wp2
  obtain ⟨m, hm⟩ : ∃ m, m = L - p := ⟨_, rfl⟩
  rw [← hm]
  have hmL : p + m = L := by omega
  have hmb : m ≤ 175921860444160 := by omega
  have HMM := hide hm
  obtain ⟨cp, hcp⟩ : ∃ cp, cp = c - p := ⟨_, rfl⟩
  rw [← hcp]
  have hmc : m ≤ cp := by omega
  clear hm hcp
  go_loopw [17, 4] (fun t a wr => ∃ i acc : Nat, t = .int .i64 (i : Int) ∧ a = .int .u64 (acc : Int) ∧ acc < 2 ^ (7 * i) ∧ i ≤ 9 ∧ vr (bs.drop p) 0 0 = vr (bs.drop (p + i)) i acc ∧ ∃ k, wr = w.drewN k) (fun t _ _ => 10 - (RowKit.intOf t).toNat)
  case atStart => exact ⟨0, 0, rfl, rfl, by decide, by decide, rfl, 1, rfl⟩
  case round =>
    obtain ⟨i, acc, rfl, rfl, hvl, hl9, hvr, k, rfl⟩ := hrel
    have HVR := hide hvr
    clear hvr
    by_cases him : i < m
    · have him' : (i : Int) < (m : Int) := by omega
      obtain ⟨b, hbv⟩ : ∃ b : Nat, bs[p + i]?.getD 0 = (b : Int) ∧ b < 256 := by
        have h4 : p + i < bs.length := by rw [← HL.out]; omega
        have h5 := HBB.out (bs[p + i]) (List.getElem_mem h4)
        refine ⟨(bs[p + i]).toNat, ?_, by omega⟩
        rw [List.getElem?_eq_getElem h4]
        simp
        omega
      have d := HC.out (p + i) (by omega)
      rw [hbv.1] at d
      have hb256 := hbv.2
      have HBV := hide (HVR.out.trans (vr_at (by rw [← HL.out]; omega) hbv.1))
      clear hbv HVR
      by_cases hlong : i = 9 ∧ 1 < b
      · have hq9 : ((i : Int) == 9) = true := by simp; omega
        have hd1 : (1 : Int) < (b : Int) := by omega
        have HE : Hid (vr (bs.drop p) 0 0 = (0, 2, 0)) := hide (by rw [HBV.out, if_pos hlong])
        clear hlong HBV
        go_wp2
        go_ret2
        exact VP.bad HRD.out HE.out (below_drewN (Below.refl _ _) _)
      · have h18 := var_room hvl hl9 hb256 hlong
        have HV := hide (orv acc b i hvl hb256 h18)
        have HPW := hide (var_pow (b := b) hvl)
        have HLO := hide hlong
        have HB2 : Hid (vr (bs.drop p) 0 0 = if b < 128 then (if b = 0 ∧ 0 < i then (0, 3, 0) else (acc + b % 128 * 2 ^ (7 * i), 0, i + 1)) else vr (bs.drop (p + i + 1)) (i + 1) (acc + b % 128 * 2 ^ (7 * i))) := hide (by rw [HBV.out, if_neg hlong])
        have HQ : Hid (((i : Int) == 9) = false ∨ ((i : Int) == 9) = true ∧ decide ((1 : Int) < (b : Int)) = false ∧ b < 128) := by
          by_cases e9 : i = 9
          · exact .inr ⟨by simp; omega, decide_eq_false (by omega), by omega⟩
          · exact .inl (by simp; omega)
        clear hlong h18 HBV
        by_cases hbb : 128 ≤ b
        · have hb128 : (128 : Int) ≤ (b : Int) := by omega
          have hi9 : i < 9 := by have h := HLO.out; omega
          have hq9 : ((i : Int) == 9) = false := by simp; omega
          have HE := hide (HB2.out.trans (if_neg (by omega)))
          go_wp2
          go_roundw
          case rel => exact ⟨i + 1, _, by simp, by rw [HV.out], HPW.out, by omega, HE.out, k, rfl⟩
          case measure => simp [RowKit.intOf]; omega
        · have hblt : ¬ (128 : Int) ≤ (b : Int) := by omega
          have HB3 := hide (HB2.out.trans (if_pos (by omega)))
          clear HB2
          by_cases hlo : b = 0 ∧ 0 < i
          · have hb0 : ((b : Int) == 0) = true := by simp; omega
            have hip : (0 : Int) < (i : Int) := by omega
            have HE := hide (HB3.out.trans (if_pos hlo))
            clear hlo
            rcases HQ.out with hq9 | ⟨hq9, hd1, _⟩
            · go_wp2
              all_goals first
                | (exfalso; omega)
                | (go_ret2; exact VP.bad HRD.out HE.out (below_drewN (Below.refl _ _) _))
            · go_wp2
              all_goals first
                | (exfalso; omega)
                | (go_ret2; exact VP.bad HRD.out HE.out (below_drewN (Below.refl _ _) _))
          · have HE := hide (HB3.out.trans (if_neg hlo))
            by_cases hbz : b = 0
            · have hb0 : ((b : Int) == 0) = true := by simp; omega
              have hiz : i ≤ 0 := by omega
              have hq9 : ((i : Int) == 9) = false := by simp; omega
              have HBZ := hide hbz
              clear hbz hlo
              go_wp2
              all_goals first
                | (exfalso; omega)
                | (go_ret2
                   rw [HV.out]
                   exact VP.good HE.out (whole_end HH.out HROW.out hgr _ _ (by push_cast; omega)))
            · have hb0 : ((b : Int) == 0) = false := by simp; omega
              have HBZ := hide hbz
              clear hbz hlo
              rcases HQ.out with hq9 | ⟨hq9, hd1, _⟩
              · go_wp2
                all_goals first
                  | (exfalso; omega)
                  | (go_ret2
                     rw [HV.out]
                     exact VP.good HE.out (whole_end HH.out HROW.out hgr _ _ (by push_cast; omega)))
              · go_wp2
                all_goals first
                  | (exfalso; omega)
                  | (go_ret2
                     rw [HV.out]
                     exact VP.good HE.out (whole_end HH.out HROW.out hgr _ _ (by push_cast; omega)))
    · have HE := hide (HVR.out.trans (vr_end (by rw [← HL.out]; omega)))
      go_wp2
      go_ret2
      exact VP.bad HRD.out HE.out (below_drewN (Below.refl _ _) _)
end Go.Proofs.YtpfpelhhebafeaaDoor
