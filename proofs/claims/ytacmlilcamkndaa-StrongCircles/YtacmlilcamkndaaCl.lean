/- StrongCircles, the law. -/
import Derived.Test.YtacmlilcamkndaaIc
namespace Go.Proofs.Ytacmlilcamkndaa
open Go.RowKit Go.Lib
set_option linter.unusedVariables false
set_option linter.unusedSimpArgs false
set_option maxHeartbeats 4000000 in
set_option maxRecDepth 100000 in
theorem circles_law (N : Int) (va vb vc : Value) (st tl wt : List Int) (w : World) (hg : GIs w N va vb vc st tl wt) (hst : st.length * 8 ≤ 140737488351232) (hto : tl.length * 8 ≤ 140737488351232) (hwt : wt.length * 8 ≤ 140737488351232) :
    Calls Try.prog 4 #[gAgg N va vb vc] w fun e w' => e = .returned (.bool true) ∧ Below w.heap.size w w' := by
  obtain ⟨W, hW⟩ : ∃ W, W = w.alloc (.cells #[.int .i64 N, va, vb, vc] 25) := ⟨_, rfl⟩
  have hbW : Below w.heap.size w W := by rw [hW]; exact below_alloc (Below.refl _ _) _
  have hA : W.heap[w.heap.size]? = some (.cells #[.int .i64 N, va, vb, vc] 25 (0, 0)) := by rw [hW]; exact heap_new _ _
  have HBW := hide hbW
  have HG := hide (hg.below hbW)
  have HTw := hide (twin_any N va vb vc st tl wt W (hg.below hbW) hst hto hwt)
  have HK : Hid (∀ X, Below W.heap.size W X → X.cell? ⟨w.heap.size, 0, none⟩ = some (.int .i64 N) ∧ X.cell? ⟨w.heap.size, 1, none⟩ = some va ∧ X.cell? ⟨w.heap.size, 2, none⟩ = some vb ∧ X.cell? ⟨w.heap.size, 3, none⟩ = some vc) := fun X hX => ⟨box_keep hA hX rfl, box_keep hA hX rfl, box_keep hA hX rfl, box_keep hA hX rfl⟩
  have B1 : Hid (st.length ≤ 17592186044416) := by show _ ≤ _; omega
  have B2 : Hid (tl.length ≤ 17592186044416) := by show _ ≤ _; omega
  have B3 : Hid (wt.length ≤ 17592186044416) := by show _ ≤ _; omega
  obtain ⟨l, E, hr⟩ : ∃ l E, (l, E) = ordA N st tl wt := ⟨_, _, rfl⟩
  have HR := hide hr
  clear hg hA hbW hr hst hto hwt
  unfold gAgg at *
  go_enter Try.func4, Try.ntmps4
  go_upto_region 1 with fail
  rw [← hW]
  clear hW
  obtain ⟨p0, p1, p2, p3⟩ := HK.out _ (Below.refl _ _)
  go_wp2_with fail
  refine HTw.out.mono ?_
  rintro e w1 ⟨g1, c1, g2, c2, g3, c3, rfl, htis, hb1⟩
  unfold tAgg gAgg
  have HT := hide htis; have HB1 := hide hb1
  clear p0 p1 p2 p3 hb1 htis HTw
  go_upto_region 2 with fail
  obtain ⟨V, hV⟩ : ∃ V, V = w1.alloc (.cells #[.int .i64 N, .slice (some ⟨g1, 0, none⟩) st.length c1, .slice (some ⟨g2, 0, none⟩) tl.length c2, .slice (some ⟨g3, 0, none⟩) wt.length c3] 25) := ⟨_, rfl⟩
  have hbV : Below w1.heap.size w1 V := by rw [hV]; exact below_alloc (Below.refl _ _) _
  have hVA : V.heap[w1.heap.size]? = some (.cells #[.int .i64 N, .slice (some ⟨g1, 0, none⟩) st.length c1, .slice (some ⟨g2, 0, none⟩) tl.length c2, .slice (some ⟨g3, 0, none⟩) wt.length c3] 25 (0, 0)) := by rw [hV]; exact heap_new _ _
  rw [← hV]
  have HTV := hide (HT.out.below hbV)
  have HBV := hide (below_on HB1.out hbV)
  obtain ⟨bx, hbx⟩ : ∃ bx, bx = w1.heap.size := ⟨_, rfl⟩
  rw [← hbx] at hVA ⊢
  have HK2 : Hid (∀ X, Below V.heap.size V X → (X.cell? ⟨w.heap.size, 0, none⟩ = some (.int .i64 N) ∧ X.cell? ⟨w.heap.size, 1, none⟩ = some va ∧ X.cell? ⟨w.heap.size, 2, none⟩ = some vb ∧ X.cell? ⟨w.heap.size, 3, none⟩ = some vc) ∧ (X.cell? ⟨bx, 0, none⟩ = some (.int .i64 N) ∧ X.cell? ⟨bx, 1, none⟩ = some (.slice (some ⟨g1, 0, none⟩) st.length c1) ∧ X.cell? ⟨bx, 2, none⟩ = some (.slice (some ⟨g2, 0, none⟩) tl.length c2) ∧ X.cell? ⟨bx, 3, none⟩ = some (.slice (some ⟨g3, 0, none⟩) wt.length c3))) := fun X hX => ⟨HK.out X (below_on HBV.out hX), box_keep hVA hX rfl, box_keep hVA hX rfl, box_keep hVA hX rfl, box_keep hVA hX rfl⟩
  have HCi : Hid (∀ X, Below V.heap.size V X → Calls Try.prog 13 #[.agg #[.int .i64 N, .slice (some ⟨g1, 0, none⟩) st.length c1, .slice (some ⟨g2, 0, none⟩) tl.length c2, .slice (some ⟨g3, 0, none⟩) wt.length c3]] X fun e w' => ∃ cv c b F, e = .returned (.tuple #[cv, .bool b, .int .i64 F]) ∧ RowAt .i64 w' cv c ∧ CA N st tl wt c b F ∧ Below X.heap.size X w') := fun X hX => circle_any N _ _ _ st tl wt X (HTV.out.below hX).gis B1.out B2.out B3.out
  have HRO : Hid (∀ X, Below V.heap.size V X → Calls Try.prog 7 #[.agg #[.int .i64 N, va, vb, vc]] X (LN X (l, E))) := fun X hX => by rw [HR.out]; exact refOrd_any N _ _ _ st tl wt X (HG.out.below (below_on HBV.out hX)) B1.out B2.out B3.out
  have HKp : Hid (∀ X, Below V.heap.size V X → Calls Try.prog 12 #[.agg #[.int .i64 N, .slice (some ⟨g1, 0, none⟩) st.length c1, .slice (some ⟨g2, 0, none⟩) tl.length c2, .slice (some ⟨g3, 0, none⟩) wt.length c3], .agg #[.int .i64 N, va, vb, vc]] X fun e w' => e = .returned (.bool true) ∧ Below X.heap.size X w') := fun X hX => kept_any N va vb vc st tl wt g1 c1 g2 c2 g3 c3 X (HTV.out.below hX) (HG.out.below (below_on HBV.out hX))
  have HGV : Hid (∀ X, Below V.heap.size V X → GIs X N va vb vc st tl wt) := fun X hX => HG.out.below (below_on HBV.out hX)
  clear hV hbV hVA hbx HT HB1
  have HBX : Hid (Below V.heap.size V V) := Below.refl _ _
  obtain ⟨⟨p0, p1, p2, p3⟩, q0, q1, q2, q3⟩ := HK2.out _ HBX.out
  go_wp2_with fail
  refine (HCi.out _ HBX.out).mono ?_
  rintro e w2 ⟨v2, c, b, F, rfl, hrow2, hca, hb⟩
  replace HBX := hide (below_on HBX.out hb)
  have HV2 := hide hrow2; have HCA := hide hca
  unfold CA at HCA
  rw [← HR.out] at HCA
  clear p0 p1 p2 p3 q0 q1 q2 q3 hb hrow2 hca
  obtain ⟨⟨p0, p1, p2, p3⟩, q0, q1, q2, q3⟩ := HK2.out _ HBX.out
  go_wp2_with fail
  refine (HRO.out _ HBX.out).mono ?_
  rintro e w3 ⟨v3, rfl, hrow3, hb⟩
  replace HBX := hide (below_on HBX.out hb)
  have HV3 := hide (HV2.out.below hb)
  have HW3 := hide hrow3
  clear p0 p1 p2 p3 q0 q1 q2 q3 hb hrow3 HV2
  obtain ⟨⟨p0, p1, p2, p3⟩, q0, q1, q2, q3⟩ := HK2.out _ HBX.out
  go_wp2_with fail
  refine (HKp.out _ HBX.out).mono ?_
  rintro e w4 ⟨rfl, hb⟩
  replace HBX := hide (below_on HBX.out hb)
  have HV4 := hide (HV3.out.below hb)
  have HW4 := hide (HW3.out.below hb)
  clear hb p0 p1 p2 p3 q0 q1 q2 q3 HV3 HW3
  obtain ⟨vo, vcap, rfl⟩ := HV4.out.shape
  obtain ⟨mo, mcap, rfl⟩ := HW4.out.shape
  obtain ⟨⟨p0, p1, p2, p3⟩, q0, q1, q2, q3⟩ := HK2.out _ HBX.out
  have hCA := HCA.out
  rcases hCA with ⟨h1, h2, h3, h4, h5⟩ | ⟨h1, h2, h3, h4, h5⟩ | ⟨h1, h2, h3, n, h4, h5, h6⟩
  · subst h3 h4 h5
    have e1 : (F != 0) = true := by simpa using h1
    have e2 : (F != 33) = true := by simpa using h2
    clear HCA h1 h2
    go_wp2_with fail
    refine (no_any F w4).mono ?_
    rintro e w4' ⟨rfl, hww⟩
    subst hww
    go_wp2_with fail
    go_ret
    exact ⟨rfl, below_on HBW.out (below_on HBV.out HBX.out)⟩
  · subst h1 h2 h3 h4
    clear HCA
    go_wp2_with fail
    refine (no_any 0 w4).mono ?_
    rintro e w4' ⟨rfl, hww⟩
    subst hww
    go_wp2_with fail
    go_ret
    exact ⟨rfl, below_on HBW.out (below_on HBV.out HBX.out)⟩
  · subst h1 h2 h3 h4
    have HIC := hide (isCircle_any n va vb vc _ st tl wt c w4 (HGV.out _ HBX.out) h5 HV4.out h6)
    unfold gAgg at HIC
    clear HCA h5 h6
    go_wp2_with fail
    refine (no_any 0 w4).mono ?_
    rintro e w4' ⟨rfl, hww⟩
    subst hww
    go_wp2_with fail
    refine HIC.out.mono ?_
    rintro e w5 ⟨rfl, hb⟩
    replace HBX := hide (below_on HBX.out hb)
    clear hb
    go_wp2_with fail
    go_ret
    exact ⟨rfl, below_on HBW.out (below_on HBV.out HBX.out)⟩
end Go.Proofs.Ytacmlilcamkndaa
