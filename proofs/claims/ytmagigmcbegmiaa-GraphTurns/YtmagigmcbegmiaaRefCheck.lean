/- The reference's Check. -/
import Derived.Test.YtmagigmcbegmiaaCheck
namespace Go.Proofs.Ytmagigmcbegmiaa
open Go.RowKit Go.Lib
set_option linter.unusedVariables false

theorem fits_parts {N : Int} {m : Nat} (h : ¬ FitsI N m) : N < 0 ∨ 1048576 < N ∨ 4194304 < m := by
  unfold FitsI at h; omega

/-- What BadRow says, as the reference asks it. -/
theorem bad_iff {N m i : Nat} {st : List Int} (h0 : 0 ≤ ahead st i) : BadRow N m st i ↔ (at_ st i < 0 ∨ (m : Int) < at_ st i ∨ (i = 0 ∧ at_ st i ≠ 0) ∨ (0 < i ∧ at_ st i < ahead st i) ∨ (i = N ∧ at_ st i ≠ m)) := by
  unfold BadRow
  rcases Nat.eq_zero_or_pos i with h | h
  · subst h
    have : ahead st 0 = 0 := rfl
    omega
  · omega
theorem ahead_nonneg {N m i : Nat} {st : List Int} (h : ∀ j, j < i → ¬ BadRow N m st j) : 0 ≤ ahead st i := by
  induction i with
  | zero => simp [ahead]
  | succ i ih =>
    have h1 := ih (fun j hj => h j (by omega))
    have h2 := h i (by omega)
    unfold BadRow at h2
    have h3 : ahead st (i + 1) = at_ st i := by unfold ahead; rw [if_neg (by omega)]; rfl
    omega

theorem good_next {n m i : Nat} {st : List Int} {w1 w2 : World} {C : Prop} (HBI : Hid (BadRow n m st i ↔ C)) (HALL : Hid (∀ j, j < i → ¬ BadRow n m st j)) (hC : ¬ C) (hi : i < n + 1) (hw : ∃ k, w2 = w1.drewN k) :
    ∃ i' : Nat, i' ≤ n + 1 ∧ Value.int .i64 ((i : Int) + 1) = .int .i64 i' ∧ (∃ k, w2 = w1.drewN k) ∧ ∀ j, j < i' → ¬ BadRow n m st j := by
  refine ⟨i + 1, by omega, by simp, hw, fun j hj => ?_⟩
  rcases Nat.lt_or_ge j i with h | h
  · exact HALL.out j h
  · obtain rfl : j = i := by omega
    exact fun hb => hC (HBI.out.1 hb)

set_option maxRecDepth 100000 in
set_option maxHeartbeats 4000000 in
theorem refCheck_any (N : Int) (va vb vc : Value) (st to wt : List Int) (w : World) (hg : GIs w N va vb vc st to wt) (hN : N ≤ 9223372036854775806) (hst : st.length ≤ 17592186044416) (hto : to.length ≤ 17592186044416) (hwt : wt.length ≤ 17592186044416) :
    Calls Try.prog 15 #[gAgg N va vb vc] w (ChkPost w (chk N st to wt)) := by
  obtain ⟨ao, ca, rfl⟩ := hg.s.shape
  obtain ⟨bo, cb, rfl⟩ := hg.t.shape
  obtain ⟨co, cc, rfl⟩ := hg.u.shape
  have HG := hide hg
  clear hg
  unfold gAgg
  by_cases hf : FitsI N to.length
  · by_cases hl : (st.length : Int) = N + 1 ∧ wt.length = to.length
    · obtain ⟨n, rfl⟩ : ∃ n : Nat, N = n := ⟨N.toNat, by have := hf.1; omega⟩
      have h1 : st.length = n + 1 := by omega
      have h2 := hl.2
      have h3 := hf.2.1
      have h4 := hf.2.2
      have HK := hide (chk_rows hf h1 h2)
      rw [h1, h2] at HG
      rw [h1, h2] at ⊢
      obtain ⟨R, hR⟩ : ∃ R, R = rowsNo n to.length st := ⟨_, rfl⟩
      have HY := hide (fun i => @rowsNo_some n to.length i st)
      have HNO := hide (@rowsNo_none n to.length st)
      rw [← hR] at HK HNO HY
      have HE := hide (fun i => @edges_some n i to wt)
      have HE2 := hide (@edges_none n to wt)
      have HX := hide (And.intro h1 h2)
      have HS := hide (fun (W : World) (h : RowAt .i64 W (.slice ao (n + 1) ca) st) (i : Nat) (hi : i < n + 1) => h.cellAt i (by rw [h1]; exact hi))
      have HC := hide (fun (W : World) (h : RowAt .i64 W (.slice bo to.length cb) to) (i : Nat) (hi : i < to.length) => h.cellAt i hi)
      have HD := hide (fun (W : World) (h : RowAt .u64 W (.slice co to.length cc) wt) (i : Nat) (hi : i < to.length) => h.cellAt i (by rw [h2]; exact hi))
      rw [h1] at HS
      rw [h2] at HD
      obtain ⟨m, hm⟩ : ∃ m, m = to.length := ⟨_, rfl⟩
      rw [← hm] at HG HY HNO HE HE2 HC HD hto h4 ⊢
      have HM := hide hm
      have HRR := hide hR
      obtain ⟨c0, c1, c2, c3, hb1, hs1⟩ := boxed w (.int .i64 n) (.slice ao (n + 1) ca) (.slice bo m cb) (.slice co m cc)
      have HG1 := hide (HG.out.below hb1)
      have HB1 := hide hb1
      clear hf hl h1 h2 hR hm hst hwt hb1
      go_enter Try.func15, Try.ntmps15
      go_wp2
      generalize (w.alloc (.cells #[.int .i64 n, .slice ao (n + 1) ca, .slice bo m cb, .slice co m cc] 25)) = w1 at c0 c1 c2 c3 hs1 HG1 HB1 ⊢
      go_loopw [5] (fun t wr => ∃ i : Nat, i ≤ n + 1 ∧ t = .int .i64 i ∧ (∃ k, wr = w1.drewN k) ∧ ∀ j, j < i → ¬ BadRow n m st j) (fun t _ => n + 1 - (RowKit.intOf t).toNat)
      case atStart => exact ⟨0, by omega, rfl, ⟨0, rfl⟩, fun j hj => by omega⟩
      case round =>
        obtain ⟨i, hi, rfl, ⟨k, rfl⟩, hall⟩ := hrel
        by_cases hlt : i < n + 1
        · obtain ⟨ga, oa, ca', hsa, hca, d1⟩ := HS.out w1 HG1.out.s i hlt
          simp only [Value.slice.injEq, true_and] at hsa
          obtain ⟨rfl, rfl⟩ := hsa
          have h0 := ahead_nonneg hall
          have HBI := hide (bad_iff (N := n) (m := m) h0)
          have HALL := hide hall
          have HPB : Hid (BadRow n m st i → chk (n : Int) st to wt = (32, (i : Int))) := fun hb => by
            have e := HY.out i hlt hb hall
            rw [HK.out, e, if_pos (by omega)]
          clear hall
          obtain ⟨x, hx⟩ : ∃ x, x = at_ st i := ⟨_, rfl⟩
          rw [← hx] at d1 HBI
          rcases Nat.eq_zero_or_pos i with hi0 | hi0
          · subst hi0
            clear hx
            simp only [Nat.add_zero] at d1
            have hin : ((0 : Nat) : Int) < (n : Int) + 1 := by omega
            by_cases hx0 : x < 0
            · have hd : decide (x < 0) = true := decide_eq_true hx0
              go_wp2_with fail
              go_quiet (fail)
              go_wp2
              go_ret2
              exact ⟨by rw [HPB.out (HBI.out.2 (by omega))]; rfl, by first | exact below_drewN HB1.out _ | exact below_drewN (below_drewN HB1.out _) _⟩
            · have hd : decide (x < 0) = false := decide_eq_false hx0
              by_cases hx1 : (m : Int) < x
              · have hd1 : decide ((m : Int) < x) = true := decide_eq_true hx1
                go_wp2_with fail
                go_quiet (fail)
                go_wp2
                go_ret2
                exact ⟨by rw [HPB.out (HBI.out.2 (by omega))]; rfl, by first | exact below_drewN HB1.out _ | exact below_drewN (below_drewN HB1.out _) _⟩
              · have hd1 : decide ((m : Int) < x) = false := decide_eq_false hx1
                by_cases hxz : x = 0
                · have hq0 : (x != 0) = false := by simp [hxz]
                  have Hhxz := hide hxz
                  clear hxz
                  by_cases hn : (0 : Int) = (n : Int)
                  · have hq : ((0 : Int) == (n : Int)) = true := by simp [hn]
                    have Hhn := hide hn
                    clear hn
                    by_cases hxm : x = (m : Int)
                    · have hq2 : (x != (m : Int)) = false := by simp [hxm]
                      have Hhxm := hide hxm
                      clear hxm
                      go_wp2_with fail
                      go_quiet (fail)
                      go_wp2
                      go_roundw
                      case rel => exact good_next HBI HALL (by have q0 := Hhxz.out; have q1 := Hhn.out; have q2 := Hhxm.out; omega) (by omega) ⟨_, rfl⟩
                      case measure => first | (simp [RowKit.intOf]; omega) | simp [RowKit.intOf]
                    · have hq2 : (x != (m : Int)) = true := by simp [hxm]
                      have Hhxm := hide hxm
                      clear hxm
                      go_wp2_with fail
                      go_quiet (fail)
                      go_wp2
                      go_ret2
                      exact ⟨by rw [HPB.out (HBI.out.2 (by have q0 := Hhxz.out; have q1 := Hhn.out; have q2 := Hhxm.out; omega))]; rfl, by first | exact below_drewN HB1.out _ | exact below_drewN (below_drewN HB1.out _) _⟩
                  · have hq : ((0 : Int) == (n : Int)) = false := by simp [hn]
                    have Hhn := hide hn
                    clear hn
                    go_wp2_with fail
                    go_quiet (fail)
                    go_wp2
                    go_roundw
                    case rel => exact good_next HBI HALL (by have q0 := Hhxz.out; have q1 := Hhn.out; omega) (by omega) ⟨_, rfl⟩
                    case measure => first | (simp [RowKit.intOf]; omega) | simp [RowKit.intOf]
                · have hq0 : (x != 0) = true := by simp [hxz]
                  have Hhxz := hide hxz
                  clear hxz
                  go_wp2_with fail
                  go_quiet (fail)
                  go_wp2
                  go_ret2
                  exact ⟨by rw [HPB.out (HBI.out.2 (.inr (.inr (.inl ⟨by trivial, Hhxz.out⟩))))]; rfl, by first | exact below_drewN HB1.out _ | exact below_drewN (below_drewN HB1.out _) _⟩
          · have hii : ¬ (i : Int) = 0 := by omega
            have hd0 : decide ((0 : Int) < (i : Int)) = true := decide_eq_true (by omega)
            obtain ⟨ga', oa', ca', hsa, _, d0⟩ := HS.out w1 HG1.out.s (i - 1) (by omega)
            simp only [Value.slice.injEq, Option.some.injEq, Addr.mk.injEq, true_and, and_true] at hsa
            obtain ⟨⟨rfl, rfl⟩, rfl⟩ := hsa
            rw [show at_ st (i - 1) = ahead st i by unfold ahead; rw [if_neg (by omega)], show i - 1 = ((i : Int) - 1).toNat by omega] at d0
            obtain ⟨y, hy⟩ : ∃ y, y = ahead st i := ⟨_, rfl⟩
            rw [← hy] at d0 HBI h0
            clear hx hy
            have him0 : 0 ≤ (i : Int) - 1 := by omega
            have him1 : (i : Int) - 1 < ((n + 1 : Nat) : Int) := by omega
            have him2 : (i : Int) - 1 < (n : Int) + 1 := by omega
            have hwrap : IntKind.i64.wrap ((i : Int) - 1) = (i : Int) - 1 := IntWalk.i64_in _ ⟨by omega, by omega⟩
            rw [← hwrap] at him0 him1 him2 d0
            have HWR := hide hwrap
            clear hwrap
            have hin : (i : Int) < (n : Int) + 1 := by omega
            by_cases hx0 : x < 0
            · have hd : decide (x < 0) = true := decide_eq_true hx0
              go_wp2_with fail
              go_quiet (fail)
              go_wp2
              go_ret2
              exact ⟨by rw [HPB.out (HBI.out.2 (by omega))]; rfl, by first | exact below_drewN HB1.out _ | exact below_drewN (below_drewN HB1.out _) _⟩
            · have hd : decide (x < 0) = false := decide_eq_false hx0
              by_cases hx1 : (m : Int) < x
              · have hd1 : decide ((m : Int) < x) = true := decide_eq_true hx1
                go_wp2_with fail
                go_quiet (fail)
                go_wp2
                go_ret2
                exact ⟨by rw [HPB.out (HBI.out.2 (by omega))]; rfl, by first | exact below_drewN HB1.out _ | exact below_drewN (below_drewN HB1.out _) _⟩
              · have hd1 : decide ((m : Int) < x) = false := decide_eq_false hx1
                by_cases hxy : x < y
                · have hd2 : decide (x < y) = true := decide_eq_true hxy
                  go_wp2_with fail
                  go_quiet (fail)
                  go_wp2
                  go_ret2
                  exact ⟨by rw [HPB.out (HBI.out.2 (by omega))]; rfl, by first | exact below_drewN HB1.out _ | exact below_drewN (below_drewN HB1.out _) _⟩
                · have hd2 : decide (x < y) = false := decide_eq_false hxy
                  by_cases hn : (i : Int) = (n : Int)
                  · have hq : ((i : Int) == (n : Int)) = true := by simp [hn]
                    have Hhn := hide hn
                    clear hn
                    by_cases hxm : x = (m : Int)
                    · have hq2 : (x != (m : Int)) = false := by simp [hxm]
                      have Hhxm := hide hxm
                      clear hxm
                      go_wp2_with fail
                      go_quiet (fail)
                      go_wp2
                      go_roundw
                      case rel => exact good_next HBI HALL (by have q1 := Hhn.out; have q2 := Hhxm.out; omega) (by omega) ⟨_, rfl⟩
                      case measure => first | (simp [RowKit.intOf]; omega) | simp [RowKit.intOf]
                    · have hq2 : (x != (m : Int)) = true := by simp [hxm]
                      have Hhxm := hide hxm
                      clear hxm
                      go_wp2_with fail
                      go_quiet (fail)
                      go_wp2
                      go_ret2
                      exact ⟨by rw [HPB.out (HBI.out.2 (by have q1 := Hhn.out; have q2 := Hhxm.out; omega))]; rfl, by first | exact below_drewN HB1.out _ | exact below_drewN (below_drewN HB1.out _) _⟩
                  · have hq : ((i : Int) == (n : Int)) = false := by simp [hn]
                    have Hhn := hide hn
                    clear hn
                    go_wp2_with fail
                    go_quiet (fail)
                    go_wp2
                    go_roundw
                    case rel => exact good_next HBI HALL (by have q1 := Hhn.out; omega) (by omega) ⟨_, rfl⟩
                    case measure => first | (simp [RowKit.intOf]; omega) | simp [RowKit.intOf]
        · have hRn : R = -1 := HNO.out (fun j hj => hall j (by omega))
          clear hall
          go_wp2
          have HP := HK.out
          rw [hRn, if_neg (by omega)] at HP
          have HPP := hide HP
          clear HP hRn
          rw [show decide (i ≤ n) = false from decide_eq_false (by omega)]
          go_loopw [7] (fun t wr => ∃ e : Nat, e ≤ m ∧ t = .int .i64 e ∧ (∃ k, wr = w1.drewN k) ∧ ∀ j, j < e → edgeNo n (at_ to j) (at_ wt j) = 0) (fun t _ => m - (RowKit.intOf t).toNat)
          case atStart => exact ⟨0, by omega, rfl, ⟨k, rfl⟩, fun j hj => by omega⟩
          case round =>
            obtain ⟨e, he, rfl, ⟨k2, rfl⟩, hall⟩ := hrel
            have HALL := hide hall
            clear hall
            by_cases hle : e < m
            · obtain ⟨gb, ob, cb', hsb, hcb, d1⟩ := HC.out w1 HG1.out.t e hle
              obtain ⟨gc, oc, cc', hsc, hcc, d2⟩ := HD.out w1 HG1.out.u e hle
              simp only [Value.slice.injEq, true_and] at hsb hsc
              obtain ⟨rfl, rfl⟩ := hsb
              obtain ⟨rfl, rfl⟩ := hsc
              have HEE := hide (fun hb => HE.out e hle hb HALL.out)
              obtain ⟨x, hx⟩ : ∃ x, x = at_ to e := ⟨_, rfl⟩
              obtain ⟨y, hy⟩ : ∃ y, y = at_ wt e := ⟨_, rfl⟩
              rw [← hx] at d1 HEE
              rw [← hy] at d2 HEE
              have HXY := hide (And.intro hx hy)
              have hli : (e : Int) < (m : Int) := by omega
              clear hx hy
              by_cases hx0 : x < 0
              · have hd : decide (x < 0) = true := decide_eq_true hx0
                have HEZ : Hid (edgeNo n x y = 30) := by unfold edgeNo; rw [if_neg (fun h : IsV n x => by have := h.1; omega)]; exact rfl
                go_wp2_with fail
                go_quiet (fail)
                go_wp2
                go_ret2
                exact ⟨by rw [HPP.out, HEE.out (by rw [HEZ.out]; decide), HEZ.out]; rfl, by first | exact below_drewN HB1.out _ | exact below_drewN (below_drewN HB1.out _) _⟩
              · have hd : decide (x < 0) = false := decide_eq_false hx0
                by_cases hxn : (n : Int) ≤ x
                · have HEZ : Hid (edgeNo n x y = 30) := by unfold edgeNo; rw [if_neg (fun h : IsV n x => by have := h.2; omega)]; exact rfl
                  go_wp2_with fail
                  go_quiet (fail)
                  go_wp2
                  go_ret2
                  exact ⟨by rw [HPP.out, HEE.out (by rw [HEZ.out]; decide), HEZ.out]; rfl, by first | exact below_drewN HB1.out _ | exact below_drewN (below_drewN HB1.out _) _⟩
                · by_cases hy1 : 4294967295 < y
                  · have HEZ : Hid (edgeNo n x y = 31) := by unfold edgeNo; rw [if_pos (show IsV n x from ⟨by omega, by omega⟩), if_pos hy1]; exact rfl
                    go_wp2_with fail
                    go_quiet (fail)
                    go_wp2
                    go_ret2
                    exact ⟨by rw [HPP.out, HEE.out (by rw [HEZ.out]; decide), HEZ.out]; rfl, by first | exact below_drewN HB1.out _ | exact below_drewN (below_drewN HB1.out _) _⟩
                  · have HEZ : Hid (edgeNo n x y = 0) := by unfold edgeNo; rw [if_pos (show IsV n x from ⟨by omega, by omega⟩), if_neg hy1]; exact rfl
                    go_wp2_with fail
                    go_quiet (fail)
                    go_wp2
                    go_roundw
                    case rel =>
                      refine ⟨e + 1, by omega, by simp, ⟨_, rfl⟩, fun j hj => ?_⟩
                      rcases Nat.lt_or_ge j e with h | h
                      · exact HALL.out j h
                      · obtain rfl : j = e := by omega
                        rw [← HXY.out.1, ← HXY.out.2]; exact HEZ.out
                    case measure => simp [RowKit.intOf]; omega
            · go_wp2
              go_ret2
              exact ⟨by rw [HPP.out, HE2.out (fun j hj => HALL.out j (by omega))]; rfl, below_drewN HB1.out _⟩
    · have HP : Hid (∀ w', Below w.heap.size w w' → ChkPost w (chk N st to wt) (.returned (.tuple #[.int .i64 32, .int .i64 (-1)])) w') := fun w' hb => ⟨by rw [chk_lens hf hl], hb⟩
      have hf0 := hf.1
      have hf1 := hf.2.1
      have hf2 := hf.2.2
      clear hf
      go_enter Try.func15, Try.ntmps15
      by_cases h1 : (st.length : Int) = N + 1
      · have h2 : ¬ wt.length = to.length := fun h => hl ⟨h1, h⟩
        clear hl
        go_wp2
        all_goals first
          | (exfalso; omega)
          | (exfalso; simp only [bne_eq_false_iff_eq] at *; omega)
          | (exfalso; simp only [bne_iff_ne] at *; omega)
          | (go_ret2; exact HP.out _ ((Below.refl _ _).alloc (Nat.le_refl _) _))
      · clear hl
        go_wp2
        all_goals first
          | (exfalso; omega)
          | (exfalso; simp only [bne_eq_false_iff_eq] at *; omega)
          | (exfalso; simp only [bne_iff_ne] at *; omega)
          | (go_ret2; exact HP.out _ ((Below.refl _ _).alloc (Nat.le_refl _) _))
  · have HP : Hid (∀ w', Below w.heap.size w w' → ChkPost w (chk N st to wt) (.returned (.tuple #[.int .i64 22, .int .i64 (-1)])) w') := fun w' hb => ⟨by rw [chk_size hf], hb⟩
    have hp := fits_parts hf
    clear hf
    go_enter Try.func15, Try.ntmps15
    go_wp2
    all_goals first
      | (exfalso; omega)
      | (go_ret2; exact HP.out _ ((Below.refl _ _).alloc (Nat.le_refl _) _))
end Go.Proofs.Ytmagigmcbegmiaa
