/- GraphChecks: the walk. -/
import Derived.Test.YtmagigmcbegmiaaKept
import Derived.Test.YtmagigmcbegmiaaRefCheck
namespace Go.Proofs.Ytmagigmcbegmiaa
open Go.RowKit Go.Lib
set_option linter.unusedVariables false

set_option maxRecDepth 100000 in
theorem no_any (x : Int) (w : World) : Calls Try.prog 16 #[.int .i64 x] w fun e w' => e = .returned (.int .i64 x) ∧ w' = w := by
  go_enter Try.func16, Try.ntmps16
  go_wp2
  go_ret
  exact ⟨rfl, rfl⟩

set_option maxRecDepth 100000 in
set_option maxHeartbeats 2000000 in
theorem check_all (N : Int) (va vb vc : Value) (st to wt : List Int) (w : World) (hg : GIs w N va vb vc st to wt) (hst : st.length ≤ 17592186044416) (hto : to.length ≤ 17592186044416) (hwt : wt.length ≤ 17592186044416) :
    Calls Try.prog 14 #[gAgg N va vb vc] w (ChkPost w (chk N st to wt)) := by
  by_cases hf : FitsI N to.length
  · exact check_any N va vb vc st to wt w hg (by have := hf.2.1; omega) hst hto hwt
  · obtain ⟨ao, ca, rfl⟩ := hg.s.shape
    obtain ⟨bo, cb, rfl⟩ := hg.t.shape
    obtain ⟨co, cc, rfl⟩ := hg.u.shape
    clear hg
    unfold gAgg
    have HP : Hid (∀ w', Below w.heap.size w w' → ChkPost w (chk N st to wt) (.returned (.tuple #[.int .i64 22, .int .i64 (-1)])) w') := fun w' hb => ⟨by rw [chk_size hf], hb⟩
    have HF := hide (fits_any N to.length)
    rw [decide_eq_false hf] at HF
    clear hf
    go_enter Try.func14, Try.ntmps14
    go_wp2_with fail
    refine (HF.out _).mono ?_
    rintro e w' ⟨rfl, rfl⟩
    go_wp2
    go_ret2
    exact HP.out _ ((Below.refl _ _).alloc (Nat.le_refl _) _)
set_option maxRecDepth 100000 in
set_option maxHeartbeats 2000000 in
theorem refCheck_all (N : Int) (va vb vc : Value) (st to wt : List Int) (w : World) (hg : GIs w N va vb vc st to wt) (hst : st.length ≤ 17592186044416) (hto : to.length ≤ 17592186044416) (hwt : wt.length ≤ 17592186044416) :
    Calls Try.prog 15 #[gAgg N va vb vc] w (ChkPost w (chk N st to wt)) := by
  by_cases hf : FitsI N to.length
  · exact refCheck_any N va vb vc st to wt w hg (by have := hf.2.1; omega) hst hto hwt
  · obtain ⟨ao, ca, rfl⟩ := hg.s.shape
    obtain ⟨bo, cb, rfl⟩ := hg.t.shape
    obtain ⟨co, cc, rfl⟩ := hg.u.shape
    clear hg
    unfold gAgg
    have HP : Hid (∀ w', Below w.heap.size w w' → ChkPost w (chk N st to wt) (.returned (.tuple #[.int .i64 22, .int .i64 (-1)])) w') := fun w' hb => ⟨by rw [chk_size hf], hb⟩
    have hp := fits_parts hf
    clear hf
    go_enter Try.func15, Try.ntmps15
    go_wp2
    all_goals first
      | (exfalso; omega)
      | (go_ret2; exact HP.out _ ((Below.refl _ _).alloc (Nat.le_refl _) _))

set_option maxRecDepth 100000 in
set_option maxHeartbeats 4000000 in
theorem checks_any (N : Int) (va vb vc : Value) (st to wt : List Int) (w : World) (hg : GIs w N va vb vc st to wt) (hst : st.length * 8 ≤ 140737488351232) (hto : to.length * 8 ≤ 140737488351232) (hwt : wt.length * 8 ≤ 140737488351232) :
    Calls Try.prog 3 #[gAgg N va vb vc] w fun e w' => e = .returned (.bool true) ∧ Below w.heap.size w w' := by
  obtain ⟨ao, ca, rfl⟩ := hg.s.shape
  obtain ⟨bo, cb, rfl⟩ := hg.t.shape
  obtain ⟨co, cc, rfl⟩ := hg.u.shape
  have HG := hide hg
  clear hg
  obtain ⟨c0, c1, c2, c3, hb1, hs1⟩ := boxed w (.int .i64 N) (.slice ao st.length ca) (.slice bo to.length cb) (.slice co wt.length cc)
  have HRM := hide (room_any N _ _ _ st to wt _ (HG.out.below hb1) hst hto hwt)
  have HG1 := hide (HG.out.below hb1)
  unfold gAgg at HRM ⊢
  have HB1 := hide hb1
  clear hb1
  go_enter Try.func3, Try.ntmps3
  go_wp2_with fail
  generalize (w.alloc (.cells #[.int .i64 N, .slice ao st.length ca, .slice bo to.length cb, .slice co wt.length cc] 25)) = w1 at c0 c1 c2 c3 hs1 HB1 HRM HG1 ⊢
  refine HRM.out.mono ?_
  rintro e w2 ⟨R, rfl, hR, hroom, hb2⟩
  have HG2 := hide (HG1.out.below hb2)
  have HB2 := hide (HB1.out.trans (hb2.mono HB1.out.size))
  have d0 := (below_cell (o := 0) hb2 hs1).trans c0
  have d1 := (below_cell (o := 1) hb2 hs1).trans c1
  have d2 := (below_cell (o := 2) hb2 hs1).trans c2
  have d3 := (below_cell (o := 3) hb2 hs1).trans c3
  have hs2 : w.heap.size < w2.heap.size := by have := hb2.size; omega
  have HRO := hide hroom
  obtain ⟨xo, xa, yo, yb, zo, zc, g1, e1, g2, e2, g3, e3, hh, hg, r1, r2, r3⟩ := hroom
  have y7 := cell_of hh (i := 7) rfl; have y8 := cell_of hh (i := 8) rfl; have y9 := cell_of hh (i := 9) rfl; have y10 := cell_of hh (i := 10) rfl
  have HCH := hide (check_all N _ _ _ st to wt w2 ⟨r1.front, r2.front, r3.front⟩ (by omega) (by omega) (by omega))
  unfold gAgg at HCH
  clear hh hg r1 r2 r3 c0 c1 c2 c3 hb2 HRM HB1 HG1 hs1 HG
  have HST := hide (And.intro hst (And.intro hto hwt))
  obtain ⟨X, hX⟩ : ∃ X, X = chk N st to wt := ⟨_, rfl⟩
  rw [← hX] at HCH
  have HX := hide hX
  clear hX
  go_wp2_with fail
  refine HCH.out.mono ?_
  rintro e w3 ⟨rfl, hb3⟩
  have e0 := (below_cell (o := 0) hb3 hs2).trans d0
  have e1' := (below_cell (o := 1) hb3 hs2).trans d1
  have e2' := (below_cell (o := 2) hb3 hs2).trans d2
  have e3' := (below_cell (o := 3) hb3 hs2).trans d3
  have HG3 := hide (HG2.out.below hb3)
  have HB3 := hide (HB2.out.trans (hb3.mono HB2.out.size))
  have HR3 := hide (HRO.out.below hb3)
  clear d0 d1 d2 d3 y7 y8 y9 y10 hb3 HCH HG2 HB2 HRO
  have HRC := hide (refCheck_all N _ _ _ st to wt w3 HG3.out (by omega) (by omega) (by omega))
  unfold gAgg at HRC
  rw [← HX.out] at HRC
  go_wp2_with fail
  refine HRC.out.mono ?_
  rintro e w4 ⟨rfl, hb4⟩
  have HR4 := hide (HR3.out.below hb4)
  have HB4 := hide (HB3.out.trans (hb4.mono HB3.out.size))
  clear e0 e1' e2' e3' hb4 HRC HG3 HB3 HR3
  go_wp2_with fail
  refine (no_any X.1 w4).mono ?_
  rintro e w5 ⟨rfl, rfl⟩
  go_wp2_with fail
  refine (kept_any R N st to wt w5 HR4.out (by have := HST.out; omega) (by have := HST.out; omega) (by have := HST.out; omega)).mono ?_
  rintro e w6 ⟨rfl, hb6⟩
  have HB6 := hide (HB4.out.trans (hb6.mono HB4.out.size))
  clear hb6
  go_wp2
  go_ret
  exact ⟨rfl, HB6.out⟩
end Go.Proofs.Ytmagigmcbegmiaa
