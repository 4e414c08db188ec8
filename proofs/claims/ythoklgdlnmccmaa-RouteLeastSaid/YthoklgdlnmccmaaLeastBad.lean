/- RouteLeast where the arguments have an error. -/
import Derived.Test.YthoklgdlnmccmaaStG
import Derived.Test.YthoklgdlnmccmaaRSearch
namespace Go.Proofs.Ythoklgdlnmccmaa
open Go.RowKit Go.Lib
set_option linter.unusedVariables false

set_option maxRecDepth 100000 in
set_option maxHeartbeats 4000000 in
theorem least_bad (N : Int) (va vb vc : Value) (st tl wt : List Int) (k : Int) (sv : Value) (S : List Pr) (q : Int) (wv : Value) (w : World) (hg : GIs w N va vb vc st tl wt) (hst : st.length * 8 ≤ 140737488351232) (hto : tl.length * 8 ≤ 140737488351232) (hwt : wt.length * 8 ≤ 140737488351232)
    (hs : SAt w sv S) (hw : ∀ j, j < S.length → 0 ≤ (sAt S j).2) (hS : S.length * 16 ≤ 140737488353280) (hno : srchNo N st tl wt k S ≠ 0) :
    Calls Try.prog 7 #[gAgg N va vb vc, .int .i64 k, sv, .int .i64 q, wv] w fun e w' => e = .returned (.bool true) ∧ Below w.heap.size w w' := by
  obtain ⟨ao, ca, rfl⟩ := hg.s.shape
  obtain ⟨bo, cb, rfl⟩ := hg.t.shape
  obtain ⟨co, cc, rfl⟩ := hg.u.shape
  obtain ⟨so, sc, rfl, hsc, hscm⟩ := hs.shape
  have HSE := hide (fun a b c W h h2 => rsearch_bad N a b c st tl wt k (.slice so S.length sc) S W h (by omega) (by omega) (by omega) h2 hno)
  obtain ⟨c0, c1, c2, c3, hb1, hs1⟩ := boxed w (.int .i64 N) (.slice ao st.length ca) (.slice bo tl.length cb) (.slice co wt.length cc)
  have HF := hide (fits_law N _ _ _ st tl wt k _ S _ (hg.below hb1) hst hto hwt (hs.below hb1) hw hS)
  rw [decide_eq_false hno] at HF
  have HG1 := hide (hg.below hb1)
  have HS1 := hide (hs.below hb1)
  have HB1 := hide hb1
  obtain ⟨x, hX⟩ : ∃ x, x = srchNo N st tl wt k S := ⟨_, rfl⟩
  rw [← hX] at HSE hno
  have hx : (x != 0) = true := by simp [hno]
  unfold gAgg at HF HSE ⊢
  clear hb1 hX hg hs hw hno
  go_enter Try.func7, Try.ntmps7
  go_wp2_with fail
  generalize (w.alloc (.cells #[.int .i64 N, .slice ao st.length ca, .slice bo tl.length cb, .slice co wt.length cc] 32)) = w1 at c0 c1 c2 c3 hs1 HB1 HF HG1 HS1 ⊢
  refine HF.out.mono ?_
  rintro e w2 ⟨rfl, hb2⟩
  obtain ⟨d0, d1, d2, d3⟩ := box_keep hs1 hb2 ⟨c0, c1, c2, c3⟩
  have HB2 := hide (below_on HB1.out hb2)
  have HG2 := hide (HG1.out.below hb2)
  have HS2 := hide (HS1.out.below hb2)
  clear c0 c1 c2 c3 hb2 HF HG1 HB1 HS1
  go_wp2_with fail
  have HTW := hide (twin_any N _ _ _ st tl wt w2 HG2.out hst hto hwt)
  unfold gAgg at HTW
  refine HTW.out.mono ?_
  rintro e w3 ⟨g1, p1, g2, p2, g3, p3, rfl, ht, hb3⟩
  have HB3 := hide (below_on HB2.out hb3)
  have HS3 := hide (HS2.out.below hb3)
  have HT3 := hide ht
  clear d0 d1 d2 d3 hb3 HTW ht HG2 HB2 HS2
  unfold tAgg gAgg
  go_wp2_with fail
  refine (HSE.out _ _ _ _ HT3.out.gis HS3.out).mono ?_
  rintro e w4 ⟨rfl, hb4⟩
  have HB4 := hide (below_on HB3.out hb4)
  clear hb4
  go_wp2
  go_ret
  exact ⟨rfl, HB4.out⟩
end Go.Proofs.Ythoklgdlnmccmaa
