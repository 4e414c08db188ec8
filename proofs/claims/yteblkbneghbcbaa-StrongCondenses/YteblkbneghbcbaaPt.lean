/- Parts, and its law. -/
import Derived.Test.YteblkbneghbcbaaTg
import Derived.Test.YteblkbneghbcbaaPc
import Derived.Test.YteblkbneghbcbaaNb
import Derived.Test.YteblkbneghbcbaaKw
namespace Go.Proofs.Yteblkbneghbcbaa
open Go.RowKit Go.Lib
set_option linter.unusedVariables false
set_option linter.unusedSimpArgs false
set_option maxHeartbeats 4000000 in
set_option maxRecDepth 100000 in
theorem parts_any (N : Int) (va vb vc : Value) (st tl wt : List Int) (w : World) (hg : GIs w N va vb vc st tl wt) (hst : st.length ≤ 17592186044416) (hto : tl.length ≤ 17592186044416) (hwt : wt.length ≤ 17592186044416) (hw : ∀ e, 0 ≤ at_ wt e) :
    Calls Try.prog 12 #[gAgg N va vb vc] w (LN w (prtA N st tl wt)) := by
  obtain ⟨W, hW⟩ : ∃ W, W = w.alloc (.cells #[.int .i64 N, va, vb, vc] 25) := ⟨_, rfl⟩
  have hbW : Below w.heap.size w W := by rw [hW]; exact below_alloc (Below.refl _ _) _
  have hA : W.heap[w.heap.size]? = some (.cells #[.int .i64 N, va, vb, vc] 25 (0, 0)) := by rw [hW]; exact heap_new _ _
  have HA := hide hA; have HBW := hide hbW; have HG := hide hg; have HW := hide hw
  have HCk := hide (check_all N va vb vc st tl wt W (hg.below hbW) hst hto hwt)
  have HK : Hid (∀ X, Below W.heap.size W X → X.cell? ⟨w.heap.size, 0, none⟩ = some (.int .i64 N) ∧ X.cell? ⟨w.heap.size, 1, none⟩ = some va ∧ X.cell? ⟨w.heap.size, 2, none⟩ = some vb ∧ X.cell? ⟨w.heap.size, 3, none⟩ = some vc) := fun X hX => ⟨box_keep hA hX rfl, box_keep hA hX rfl, box_keep hA hX rfl, box_keep hA hX rfl⟩
  obtain ⟨r1, r2, hr⟩ : ∃ r1 r2, (r1, r2) = chk N st tl wt := ⟨_, _, rfl⟩
  have HR := hide hr
  unfold ChkPost at HCk
  rw [← hr] at HCk
  clear hg hA hbW hr hw
  unfold gAgg at *
  go_enter Try.func12, Try.ntmps12
  go_upto_region 1 with fail
  rw [← hW]
  clear hW
  obtain ⟨p0, p1, p2, p3⟩ := HK.out _ (Below.refl _ _)
  go_wp2_with fail
  refine HCk.out.mono ?_
  rintro e w1 ⟨rfl, hb1⟩
  have HB1 := hide hb1
  clear p0 p1 p2 p3
  obtain ⟨p0, p1, p2, p3⟩ := HK.out _ hb1
  clear hb1
  by_cases hz : r1 = 0
  · subst hz
    have hc0 : (chk N st tl wt).1 = 0 := by rw [← HR.out]
    obtain ⟨n, rfl, hgood⟩ := chk_good hc0
    have HTo := hide (together_any n va vb vc st tl wt w1 ((HG.out.below HBW.out).below HB1.out) hgood HW.out)
    have hnl := hgood.n_le
    unfold gAgg at HTo
    have HC0 := hide hc0
    clear hc0
    go_wp2_with fail
    refine HTo.out.mono ?_
    rintro e w2 ⟨A, G, rfl, harr, hA2, hb2, hg1, hg2⟩
    have HB2 := hide (below_on HB1.out hb2)
    have HNu := hide (numbered_any n (.slice (some ⟨A, 0, none⟩) n n) (tab n G) (BG n st tl) w2 hnl (tab_length n G) (harr.row (tab_length n G) (by omega)) (Bo.eqv _) (fun v hv => by rw [tab_at n G v hv]; exact hg1 v hv) (fun u v hu hv => by rw [tab_at n G u hu, tab_at n G v hv]; exact hg2 u v hu hv))
    clear p0 p1 p2 p3 hb2 harr hg1 hg2 HTo
    go_wp2_with fail
    refine HNu.out.mono ?_
    rintro e w3 ⟨pv, rfl, hrow, hb3⟩
    have HB3 := hide (below_on HB2.out hb3); have HRow := hide hrow
    obtain ⟨po, pc, rfl⟩ := hrow.shape
    clear hb3 hrow HNu
    go_wp2_with fail
    go_ret2
    rw [show prtA n st tl wt = (tab n (fun v => (numb (BG n st tl) v : Int)), 0) by unfold prtA; rw [if_pos HC0.out, Int.toNat_natCast]]
    exact ⟨_, rfl, HRow.out, below_on HBW.out HB3.out⟩
  · have hzb : (r1 != 0) = true := by simpa using hz
    have HAns : Hid (prtA N st tl wt = ([], r1)) := by unfold prtA; rw [if_neg (by rw [← HR.out]; exact hz), ← HR.out]; exact hide rfl
    clear hz
    go_wp2_with fail
    go_ret2
    rw [HAns.out]
    exact ⟨_, rfl, RowAt.nil _ _, below_on HBW.out HB1.out⟩
set_option maxHeartbeats 4000000 in
set_option maxRecDepth 100000 in
theorem parts_law (N : Int) (va vb vc : Value) (st tl wt : List Int) (w : World) (hg : GIs w N va vb vc st tl wt) (hst : st.length * 8 ≤ 140737488351232) (hto : tl.length * 8 ≤ 140737488351232) (hwt : wt.length * 8 ≤ 140737488351232) (hw : ∀ e, 0 ≤ at_ wt e) :
    Calls Try.prog 3 #[gAgg N va vb vc] w fun e w' => e = .returned (.bool true) ∧ Below w.heap.size w w' := by
  obtain ⟨W, hW⟩ : ∃ W, W = w.alloc (.cells #[.int .i64 N, va, vb, vc] 25) := ⟨_, rfl⟩
  have hbW : Below w.heap.size w W := by rw [hW]; exact below_alloc (Below.refl _ _) _
  have hA : W.heap[w.heap.size]? = some (.cells #[.int .i64 N, va, vb, vc] 25 (0, 0)) := by rw [hW]; exact heap_new _ _
  have HBW := hide hbW
  have HG := hide (hg.below hbW)
  have HTw := hide (twin_any N va vb vc st tl wt W (hg.below hbW) hst hto hwt)
  have HK : Hid (∀ X, Below W.heap.size W X → X.cell? ⟨w.heap.size, 0, none⟩ = some (.int .i64 N) ∧ X.cell? ⟨w.heap.size, 1, none⟩ = some va ∧ X.cell? ⟨w.heap.size, 2, none⟩ = some vb ∧ X.cell? ⟨w.heap.size, 3, none⟩ = some vc) := fun X hX => ⟨box_keep hA hX rfl, box_keep hA hX rfl, box_keep hA hX rfl, box_keep hA hX rfl⟩
  have B1 : Hid (st.length ≤ 17592186044416) := by show _ ≤ _; omega
  have B2 : Hid (tl.length ≤ 17592186044416) := by show _ ≤ _; omega
  have B3 : Hid (wt.length ≤ 17592186044416) := by show _ ≤ _; omega
  obtain ⟨l, E, hr⟩ : ∃ l E, (l, E) = prtA N st tl wt := ⟨_, _, rfl⟩
  have HR := hide hr; have HW := hide hw
  clear hg hA hbW hr hst hto hwt hw
  unfold gAgg at *
  go_enter Try.func3, Try.ntmps3
  go_upto_region 1 with fail
  rw [← hW]
  clear hW
  obtain ⟨p0, p1, p2, p3⟩ := HK.out _ (Below.refl _ _)
  go_wp2_with fail
  refine HTw.out.mono ?_
  rintro e w1 ⟨g1, c1, g2, c2, g3, c3, rfl, htis, hb1⟩
  unfold tAgg gAgg
  have HT := hide htis; have HB1 := hide hb1
  clear p0 p1 p2 p3 hb1 htis HTw
  go_upto_region 2 with fail
  obtain ⟨V, hV⟩ : ∃ V, V = w1.alloc (.cells #[.int .i64 N, .slice (some ⟨g1, 0, none⟩) st.length c1, .slice (some ⟨g2, 0, none⟩) tl.length c2, .slice (some ⟨g3, 0, none⟩) wt.length c3] 25) := ⟨_, rfl⟩
  have hbV : Below w1.heap.size w1 V := by rw [hV]; exact below_alloc (Below.refl _ _) _
  have hVA : V.heap[w1.heap.size]? = some (.cells #[.int .i64 N, .slice (some ⟨g1, 0, none⟩) st.length c1, .slice (some ⟨g2, 0, none⟩) tl.length c2, .slice (some ⟨g3, 0, none⟩) wt.length c3] 25 (0, 0)) := by rw [hV]; exact heap_new _ _
  rw [← hV]
  have HTV := hide (HT.out.below hbV)
  have HBV := hide (below_on HB1.out hbV)
  obtain ⟨bx, hbx⟩ : ∃ bx, bx = w1.heap.size := ⟨_, rfl⟩
  rw [← hbx] at hVA ⊢
  have HK2 : Hid (∀ X, Below V.heap.size V X → (X.cell? ⟨w.heap.size, 0, none⟩ = some (.int .i64 N) ∧ X.cell? ⟨w.heap.size, 1, none⟩ = some va ∧ X.cell? ⟨w.heap.size, 2, none⟩ = some vb ∧ X.cell? ⟨w.heap.size, 3, none⟩ = some vc) ∧ (X.cell? ⟨bx, 0, none⟩ = some (.int .i64 N) ∧ X.cell? ⟨bx, 1, none⟩ = some (.slice (some ⟨g1, 0, none⟩) st.length c1) ∧ X.cell? ⟨bx, 2, none⟩ = some (.slice (some ⟨g2, 0, none⟩) tl.length c2) ∧ X.cell? ⟨bx, 3, none⟩ = some (.slice (some ⟨g3, 0, none⟩) wt.length c3))) := fun X hX => ⟨HK.out X (below_on HBV.out hX), box_keep hVA hX rfl, box_keep hVA hX rfl, box_keep hVA hX rfl, box_keep hVA hX rfl⟩
  have HOr : Hid (∀ X, Below V.heap.size V X → Calls Try.prog 12 #[.agg #[.int .i64 N, .slice (some ⟨g1, 0, none⟩) st.length c1, .slice (some ⟨g2, 0, none⟩) tl.length c2, .slice (some ⟨g3, 0, none⟩) wt.length c3]] X (LN X (l, E))) := fun X hX => by rw [HR.out]; exact parts_any N _ _ _ st tl wt X (HTV.out.below hX).gis B1.out B2.out B3.out HW.out
  have HRO : Hid (∀ X, Below V.heap.size V X → Calls Try.prog 13 #[.agg #[.int .i64 N, va, vb, vc]] X (LN X (l, E))) := fun X hX => by rw [HR.out]; exact partsR_any N _ _ _ st tl wt X (HG.out.below (below_on HBV.out hX)) B1.out B2.out B3.out HW.out
  have HKp : Hid (∀ X, Below V.heap.size V X → Calls Try.prog 16 #[.agg #[.int .i64 N, .slice (some ⟨g1, 0, none⟩) st.length c1, .slice (some ⟨g2, 0, none⟩) tl.length c2, .slice (some ⟨g3, 0, none⟩) wt.length c3], .agg #[.int .i64 N, va, vb, vc]] X fun e w' => e = .returned (.bool true) ∧ Below X.heap.size X w') := fun X hX => kept_any N va vb vc st tl wt g1 c1 g2 c2 g3 c3 X (HTV.out.below hX) (HG.out.below (below_on HBV.out hX))
  clear hV hbV hVA hbx HT HB1
  have HBX : Hid (Below V.heap.size V V) := Below.refl _ _
  obtain ⟨⟨p0, p1, p2, p3⟩, q0, q1, q2, q3⟩ := HK2.out _ HBX.out
  go_wp2_with fail
  refine (HOr.out _ HBX.out).mono ?_
  rintro e w2 ⟨v2, rfl, hrow2, hb⟩
  replace HBX := hide (below_on HBX.out hb)
  have HV2 := hide hrow2
  clear p0 p1 p2 p3 q0 q1 q2 q3 hb hrow2
  obtain ⟨⟨p0, p1, p2, p3⟩, q0, q1, q2, q3⟩ := HK2.out _ HBX.out
  go_wp2_with fail
  refine (HRO.out _ HBX.out).mono ?_
  rintro e w3 ⟨v3, rfl, hrow3, hb⟩
  replace HBX := hide (below_on HBX.out hb)
  have HS1 := hide (lawSame_eq v2 v3 l w3 (HV2.out.below hb) hrow3)
  clear p0 p1 p2 p3 q0 q1 q2 q3 hb hrow3
  go_wp2_with fail
  refine HS1.out.mono ?_
  rintro e w4 ⟨rfl, hb⟩
  replace HBX := hide (below_on HBX.out hb)
  clear hb
  go_wp2_with fail
  refine (no_any E w4).mono ?_
  rintro e w4' ⟨rfl, hww⟩
  subst hww
  obtain ⟨⟨p0, p1, p2, p3⟩, q0, q1, q2, q3⟩ := HK2.out _ HBX.out
  go_wp2_with fail
  refine (HKp.out _ HBX.out).mono ?_
  rintro e w8 ⟨rfl, hb⟩
  replace HBX := hide (below_on HBX.out hb)
  clear hb p0 p1 p2 p3 q0 q1 q2 q3
  go_wp2_with fail
  go_ret
  exact ⟨rfl, below_on HBW.out (below_on HBV.out HBX.out)⟩
end Go.Proofs.Yteblkbneghbcbaa
