/- RoutePaths: the walk. -/
import Derived.Test.YtpfalalmfoiloaaPathBad
import Derived.Test.YtpfalalmfoiloaaTwinKept
import Derived.Test.YtpfalalmfoiloaaOpen
namespace Go.Proofs.Ytpfalalmfoiloaa
open Go.RowKit Go.Lib
set_option linter.unusedVariables false

set_option maxRecDepth 100000 in
set_option maxHeartbeats 4000000 in
theorem paths_law (N : Int) (va vb vc : Value) (st to wt : List Int) (wv : Value) (way : List Int) (t : Int) (w : World) (hg : GIs w N va vb vc st to wt) (hst : st.length * 8 ≤ 140737488351232) (hto : to.length * 8 ≤ 140737488351232) (hwt : wt.length * 8 ≤ 140737488351232)
    (hw : RowAt .i64 w wv way) (hwl : way.length * 8 ≤ 140737488351232) :
    Calls Try.prog 5 #[gAgg N va vb vc, wv, .int .i64 t] w fun e w' => e = .returned (.bool true) ∧ Below w.heap.size w w' := by
  obtain ⟨ao, ca, rfl⟩ := hg.s.shape
  obtain ⟨bo, cb, rfl⟩ := hg.t.shape
  obtain ⟨co, cc, rfl⟩ := hg.u.shape
  obtain ⟨wo, wc, rfl⟩ := hw.shape
  have HST := hide (fun a b c u W h hu => path_any N a b c st to wt u way t W h (by omega) (by omega) (by omega) hu)
  have HRF := hide (fun a b c u W h hu => refPath_any N a b c st to wt u way t W h (by omega) (by omega) (by omega) hu)
  obtain ⟨c0, c1, c2, c3, hb1, hs1⟩ := boxed w (.int .i64 N) (.slice ao st.length ca) (.slice bo to.length cb) (.slice co wt.length cc)
  have HR := hide (HRF.out _ _ _ _ _ (hg.below hb1) (hw.below hb1))
  have HG1 := hide (hg.below hb1)
  have HW1 := hide (hw.below hb1)
  have HB1 := hide hb1
  obtain ⟨X, hX⟩ : ∃ X, X = pathAll N st to wt way t := ⟨_, rfl⟩
  rw [← hX] at HR HST
  obtain ⟨L, x⟩ := X
  unfold PathPost at HR HST
  unfold gAgg at HR ⊢
  clear hb1 hX hg hw HRF
  go_enter Try.func5, Try.ntmps5
  go_wp2_with fail
  generalize (w.alloc (.cells #[.int .i64 N, .slice ao st.length ca, .slice bo to.length cb, .slice co wt.length cc] 32)) = w1 at c0 c1 c2 c3 hs1 HB1 HR HG1 HW1 ⊢
  refine HR.out.mono ?_
  rintro e w2 ⟨v1, rfl, hr1, hb2⟩
  have HR1 := hide hr1
  obtain ⟨xo, xc, rfl⟩ := hr1.shape
  obtain ⟨d0, d1, d2, d3⟩ := box_keep hs1 hb2 ⟨c0, c1, c2, c3⟩
  have HBX := hide (box_keep hs1 hb2 ⟨c0, c1, c2, c3⟩)
  have hs2 : w.heap.size < w2.heap.size := by have := hb2.size; omega
  have HB2 := hide (below_on HB1.out hb2)
  have HG2 := hide (HG1.out.below hb2)
  have HW2 := hide (HW1.out.below hb2)
  clear c0 c1 c2 c3 hb2 HR HG1 HB1 HW1 hr1
  go_wp2_with fail
  have HTW := hide (twin_any N _ _ _ st to wt w2 HG2.out hst hto hwt)
  unfold gAgg at HTW
  refine HTW.out.mono ?_
  rintro e w3 ⟨g1, p1, g2, p2, g3, p3, rfl, ht, hb3⟩
  have HBX3 := hide (box_keep hs2 hb3 HBX.out)
  have hs3 : w.heap.size < w3.heap.size := by have := hb3.size; omega
  have HB3 := hide (below_on HB2.out hb3)
  have HG3 := hide (HG2.out.below hb3)
  have HW3 := hide (HW2.out.below hb3)
  have HT3 := hide ht
  have HR3 := hide (HR1.out.below hb3)
  clear d0 d1 d2 d3 hb3 HTW ht HG2 HB2 HW2 HBX
  unfold tAgg gAgg
  go_wp2_with fail
  obtain ⟨b0, b1, b2, b3, hb4, hs4⟩ := boxed w3 (.int .i64 N) (.slice (some ⟨g1, 0, none⟩) st.length p1) (.slice (some ⟨g2, 0, none⟩) to.length p2) (.slice (some ⟨g3, 0, none⟩) wt.length p3)
  have HTX := hide (And.intro b0 (And.intro b1 (And.intro b2 b3)))
  have HBX4 := hide (box_keep hs3 hb4 HBX3.out)
  have HB4 := hide (below_on HB3.out hb4)
  have HG4 := hide (HG3.out.below hb4)
  have HW4 := hide (HW3.out.below hb4)
  have HT4 := hide (HT3.out.below hb4)
  have HR4 := hide (HR3.out.below hb4)
  clear hb4 HG3 HB3 HT3 HW3 HBX3
  generalize (w3.alloc (.cells #[.int .i64 N, .slice (some ⟨g1, 0, none⟩) st.length p1, .slice (some ⟨g2, 0, none⟩) to.length p2, .slice (some ⟨g3, 0, none⟩) wt.length p3] 32)) = w4 at b0 b1 b2 b3 hs4 HTX HBX4 HB4 HG4 HW4 HT4 HR4 ⊢
  have hs4' : w.heap.size < w4.heap.size := by omega
  refine (ints_any _ way w4 HW4.out hwl).mono ?_
  rintro e w5 ⟨g5, c5, rfl, hg5, hm5, hb5⟩
  clear b0 b1 b2 b3
  obtain ⟨b0, b1, b2, b3⟩ := box_keep hs4 hb5 HTX.out
  have HTX5 := hide (box_keep hs4 hb5 HTX.out)
  have HBX5 := hide (box_keep hs4' hb5 HBX4.out)
  have hs5 : w3.heap.size < w5.heap.size := by have := hb5.size; omega
  have hs5' : w.heap.size < w5.heap.size := by omega
  have HB5 := hide (below_on HB4.out hb5)
  have HG5 := hide (HG4.out.below hb5)
  have HW5 := hide (HW4.out.below hb5)
  have HT5 := hide (HT4.out.below hb5)
  have HR5 := hide (HR4.out.below hb5)
  have HM5 := hide hm5
  clear hb5 hm5 hg5 HG4 HB4 HW4 HT4 HTX HBX4
  go_wp2_with fail
  have HS := hide (HST.out _ _ _ _ w5 HT5.out.gis HM5.out.row)
  unfold gAgg at HS
  refine HS.out.mono ?_
  rintro e w6 ⟨v2, rfl, hr2, hb6⟩
  have HR6 := hide (HR5.out.below hb6)
  have HQ6 := hide hr2
  obtain ⟨yo, yc, rfl⟩ := hr2.shape
  have HBX6 := hide (box_keep hs5' hb6 HBX5.out)
  have HTX6 := hide (box_keep hs5 hb6 HTX5.out)
  have hs6 : w3.heap.size < w6.heap.size := by have := hb6.size; omega
  have hs6' : w.heap.size < w6.heap.size := by omega
  clear b0 b1 b2 b3
  have HB6 := hide (below_on HB5.out hb6)
  have HG6 := hide (HG5.out.below hb6)
  have HW6 := hide (HW5.out.below hb6)
  have HT6 := hide (HT5.out.below hb6)
  have HM6 := hide (HM5.out.below hb6)
  clear hb6 HG5 HB5 HW5 HT5 HM5 HS HST HTX5 HBX5 hr2 HR5
  go_wp2_with fail
  refine (same_any _ _ L w6 HQ6.out HR6.out).mono ?_
  rintro e w6b ⟨rfl, hb6b⟩
  obtain ⟨r0, r1, r2, r3⟩ := box_keep hs6 hb6b HTX6.out
  obtain ⟨q0, q1, q2, q3⟩ := box_keep hs6' hb6b HBX6.out
  have HB6b := hide (below_on HB6.out hb6b)
  have HG6b := hide (HG6.out.below hb6b)
  have HW6b := hide (HW6.out.below hb6b)
  have HT6b := hide (HT6.out.below hb6b)
  have HM6b := hide (HM6.out.below hb6b)
  clear hb6b HB6 HG6 HW6 HT6 HM6 HBX6 HTX6
  go_wp2_with fail
  have HK := hide (twinKept_any N _ _ _ st to wt g1 p1 g2 p2 g3 p3 w6b HT6b.out HG6b.out hst hto hwt)
  unfold tAgg gAgg at HK
  refine HK.out.mono ?_
  rintro e w7 ⟨rfl, hb7⟩
  have HB7 := hide (below_on HB6b.out hb7)
  have HW7 := hide (HW6b.out.below hb7)
  have HM7 := hide (HM6b.out.below hb7)
  clear q0 q1 q2 q3 r0 r1 r2 r3 hb7 HK HG6b HB6b HT6b HW6b HM6b
  go_wp2_with fail
  refine (intsKept_any g5 c5 _ way w7 HM7.out HW7.out hwl).mono ?_
  rintro e w8 ⟨rfl, hb8⟩
  have HB8 := hide (below_on HB7.out hb8)
  clear hb8
  go_wp2
  go_ret
  exact ⟨rfl, HB8.out⟩
end Go.Proofs.Ytpfalalmfoiloaa
