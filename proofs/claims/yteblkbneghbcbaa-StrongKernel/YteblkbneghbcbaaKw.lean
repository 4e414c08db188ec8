/- kept, and the law StrongOrders. -/
import Derived.Test.YteblkbneghbcbaaLl
namespace Go.Proofs.Yteblkbneghbcbaa
open Go.RowKit Go.Lib
set_option linter.unusedVariables false
set_option linter.unusedSimpArgs false
set_option maxHeartbeats 4000000 in
set_option maxRecDepth 100000 in
theorem kept_any (N : Int) (va vb vc : Value) (st tl wt : List Int) (g1 c1 g2 c2 g3 c3 : Nat) (w : World) (ht : TIs w N g1 c1 g2 c2 g3 c3 st tl wt) (hg : GIs w N va vb vc st tl wt) :
    Calls Try.prog 16 #[tAgg N g1 c1 g2 c2 g3 c3 st.length tl.length wt.length, gAgg N va vb vc] w fun e w' => e = .returned (.bool true) ∧ Below w.heap.size w w' := by
  obtain ⟨ao, ca, rfl⟩ := hg.s.shape
  obtain ⟨bo, cb, rfl⟩ := hg.t.shape
  obtain ⟨co, cc, rfl⟩ := hg.u.shape
  have k1 := ht.s.cap
  have k2 := ht.t.cap
  have k3 := ht.u.cap
  have HG := hide hg; have HT := hide ht
  obtain ⟨W, hW⟩ : ∃ W, W = (w.alloc (.cells #[.int .i64 N, .slice (some ⟨g1, 0, none⟩) st.length c1, .slice (some ⟨g2, 0, none⟩) tl.length c2, .slice (some ⟨g3, 0, none⟩) wt.length c3] 25)).alloc (.cells #[.int .i64 N, .slice ao st.length ca, .slice bo tl.length cb, .slice co wt.length cc] 25) := ⟨_, rfl⟩
  have hbW : Below w.heap.size w W := by rw [hW]; exact below_alloc (below_alloc (Below.refl _ _) _) _
  have hA : W.heap[w.heap.size]? = some (.cells #[.int .i64 N, .slice (some ⟨g1, 0, none⟩) st.length c1, .slice (some ⟨g2, 0, none⟩) tl.length c2, .slice (some ⟨g3, 0, none⟩) wt.length c3] 25 (0, 0)) := by
    rw [hW]
    exact (((Below.refl _ _).alloc (Nat.le_refl _) _).block w.heap.size (by simp)).trans (heap_new w _)
  have hB : W.heap[w.heap.size + 1]? = some (.cells #[.int .i64 N, .slice ao st.length ca, .slice bo tl.length cb, .slice co wt.length cc] 25 (0, 0)) := by
    rw [hW]
    have := heap_new (w.alloc (.cells #[.int .i64 N, .slice (some ⟨g1, 0, none⟩) st.length c1, .slice (some ⟨g2, 0, none⟩) tl.length c2, .slice (some ⟨g3, 0, none⟩) wt.length c3] 25)) (.cells #[.int .i64 N, .slice ao st.length ca, .slice bo tl.length cb, .slice co wt.length cc] 25)
    simpa using this
  have HBW := hide hbW
  have HS := hide (same_any N _ _ _ _ _ _ st tl wt W (HT.out.below hbW).gis (HG.out.below hbW))
  have HK1 : Hid (∀ X, Below W.heap.size W X → (X.cell? ⟨w.heap.size, 0, none⟩ = some (.int .i64 N) ∧ X.cell? ⟨w.heap.size, 1, none⟩ = some (.slice (some ⟨g1, 0, none⟩) st.length c1) ∧ X.cell? ⟨w.heap.size, 2, none⟩ = some (.slice (some ⟨g2, 0, none⟩) tl.length c2) ∧ X.cell? ⟨w.heap.size, 3, none⟩ = some (.slice (some ⟨g3, 0, none⟩) wt.length c3)) ∧ (X.cell? ⟨w.heap.size + 1, 0, none⟩ = some (.int .i64 N) ∧ X.cell? ⟨w.heap.size + 1, 1, none⟩ = some (.slice ao st.length ca) ∧ X.cell? ⟨w.heap.size + 1, 2, none⟩ = some (.slice bo tl.length cb) ∧ X.cell? ⟨w.heap.size + 1, 3, none⟩ = some (.slice co wt.length cc))) := fun X hX => ⟨⟨box_keep hA hX rfl, box_keep hA hX rfl, box_keep hA hX rfl, box_keep hA hX rfl⟩, box_keep hB hX rfl, box_keep hB hX rfl, box_keep hB hX rfl, box_keep hB hX rfl⟩
  have HM : Hid (∀ X, Below W.heap.size W X → (X.cell? ⟨g1, st.length, none⟩ = some (.int .i64 (-81)) ∧ X.cell? ⟨g1, st.length + 1, none⟩ = some (.int .i64 (-82))) ∧ (X.cell? ⟨g2, tl.length, none⟩ = some (.int .i64 (-81)) ∧ X.cell? ⟨g2, tl.length + 1, none⟩ = some (.int .i64 (-82))) ∧ (X.cell? ⟨g3, wt.length, none⟩ = some (.int .u64 83) ∧ X.cell? ⟨g3, wt.length + 1, none⟩ = some (.int .u64 84))) := fun X hX => by
    have h := (HT.out.below hbW).below hX
    exact ⟨h.s.ends, h.t.ends, h.u.ends⟩
  unfold tAgg gAgg at *
  obtain ⟨n1, hn1⟩ : ∃ n, n = st.length := ⟨_, rfl⟩
  obtain ⟨n2, hn2⟩ : ∃ n, n = tl.length := ⟨_, rfl⟩
  obtain ⟨n3, hn3⟩ : ∃ n, n = wt.length := ⟨_, rfl⟩
  rw [← hn1, ← hn2, ← hn3] at hW HS HK1 HM ⊢
  rw [← hn1] at k1
  rw [← hn2] at k2
  rw [← hn3] at k3
  clear hg ht hA hB hbW hn1 hn2 hn3 HG HT
  have j1 : (n1 : Int) + 2 ≤ c1 := by omega
  have j2 : (n2 : Int) + 2 ≤ c2 := by omega
  have j3 : (n3 : Int) + 2 ≤ c3 := by omega
  have l1 : IntKind.i64.wrap ((n1 : Int) + 1) = (n1 : Int) + 1 := IntWalk.i64_in _ (by omega)
  have l2 : IntKind.i64.wrap ((n2 : Int) + 1) = (n2 : Int) + 1 := IntWalk.i64_in _ (by omega)
  have l3 : IntKind.i64.wrap ((n3 : Int) + 1) = (n3 : Int) + 1 := IntWalk.i64_in _ (by omega)
  have l4 : IntKind.i64.wrap ((n1 : Int) + 2) = (n1 : Int) + 2 := IntWalk.i64_in _ (by omega)
  have l5 : IntKind.i64.wrap ((n2 : Int) + 2) = (n2 : Int) + 2 := IntWalk.i64_in _ (by omega)
  have l6 : IntKind.i64.wrap ((n3 : Int) + 2) = (n3 : Int) + 2 := IntWalk.i64_in _ (by omega)
  clear k1 k2 k3
  go_enter Try.func16, Try.ntmps16
  go_upto_region 1 with fail
  rw [← hW]
  clear hW
  obtain ⟨⟨p0, p1, p2, p3⟩, q0, q1, q2, q3⟩ := HK1.out _ (Below.refl _ _)
  go_wp2_with fail
  refine HS.out.mono ?_
  rintro e w1 ⟨rfl, hb⟩
  have HB1 := hide hb
  clear p0 p1 p2 p3 q0 q1 q2 q3
  obtain ⟨⟨p0, p1, p2, p3⟩, q0, q1, q2, q3⟩ := HK1.out _ hb
  obtain ⟨⟨m1, m2⟩, ⟨m3, m4⟩, m5, m6⟩ := HM.out _ hb
  clear hb
  go_wp2_with fail
  go_ret
  exact ⟨rfl, below_on HBW.out HB1.out⟩
theorem no_any (x : Int) (w : World) : Calls Try.prog 15 #[.int .i64 x] w fun e w' => e = .returned (.int .i64 x) ∧ w' = w := by
  go_enter Try.func15, Try.ntmps15
  go_wp2
  go_ret
  exact ⟨rfl, rfl⟩
theorem lawSame_eq (v1 v2 : Value) (xs : List Int) (w : World) (h1 : RowAt .i64 w v1 xs) (h2 : RowAt .i64 w v2 xs) : Calls Try.prog 14 #[v1, v2] w fun e w' => e = .returned (.bool true) ∧ Below w.heap.size w w' :=
  (lawSame_any v1 v2 xs xs w h1 h2).mono fun e w' ⟨h, k⟩ => ⟨by rw [h]; simp, k⟩
set_option maxHeartbeats 4000000 in
set_option maxRecDepth 100000 in
theorem orders_law (N : Int) (va vb vc : Value) (st tl wt : List Int) (w : World) (hg : GIs w N va vb vc st tl wt) (hst : st.length * 8 ≤ 140737488351232) (hto : tl.length * 8 ≤ 140737488351232) (hwt : wt.length * 8 ≤ 140737488351232) :
    Calls Try.prog 5 #[gAgg N va vb vc] w fun e w' => e = .returned (.bool true) ∧ Below w.heap.size w w' := by
  obtain ⟨W, hW⟩ : ∃ W, W = w.alloc (.cells #[.int .i64 N, va, vb, vc] 25) := ⟨_, rfl⟩
  have hbW : Below w.heap.size w W := by rw [hW]; exact below_alloc (Below.refl _ _) _
  have hA : W.heap[w.heap.size]? = some (.cells #[.int .i64 N, va, vb, vc] 25 (0, 0)) := by rw [hW]; exact heap_new _ _
  have HBW := hide hbW
  have HG := hide (hg.below hbW)
  have HTw := hide (twin_any N va vb vc st tl wt W (hg.below hbW) hst hto hwt)
  have HK : Hid (∀ X, Below W.heap.size W X → X.cell? ⟨w.heap.size, 0, none⟩ = some (.int .i64 N) ∧ X.cell? ⟨w.heap.size, 1, none⟩ = some va ∧ X.cell? ⟨w.heap.size, 2, none⟩ = some vb ∧ X.cell? ⟨w.heap.size, 3, none⟩ = some vc) := fun X hX => ⟨box_keep hA hX rfl, box_keep hA hX rfl, box_keep hA hX rfl, box_keep hA hX rfl⟩
  have B1 : Hid (st.length ≤ 17592186044416) := by show _ ≤ _; omega
  have B2 : Hid (tl.length ≤ 17592186044416) := by show _ ≤ _; omega
  have B3 : Hid (wt.length ≤ 17592186044416) := by show _ ≤ _; omega
  obtain ⟨l, E, hr⟩ : ∃ l E, (l, E) = ordA N st tl wt := ⟨_, _, rfl⟩
  obtain ⟨d, F, hq⟩ : ∃ l E, (l, E) = lngA N st tl wt := ⟨_, _, rfl⟩
  have HR := hide hr; have HQ := hide hq
  clear hg hA hbW hr hq hst hto hwt
  unfold gAgg at *
  go_enter Try.func5, Try.ntmps5
  go_upto_region 1 with fail
  rw [← hW]
  clear hW
  obtain ⟨p0, p1, p2, p3⟩ := HK.out _ (Below.refl _ _)
  go_wp2_with fail
  refine HTw.out.mono ?_
  rintro e w1 ⟨g1, c1, g2, c2, g3, c3, rfl, htis, hb1⟩
  unfold tAgg gAgg
  have HT := hide htis; have HB1 := hide hb1
  clear p0 p1 p2 p3 hb1 htis HTw
  go_upto_region 2 with fail
  obtain ⟨V, hV⟩ : ∃ V, V = w1.alloc (.cells #[.int .i64 N, .slice (some ⟨g1, 0, none⟩) st.length c1, .slice (some ⟨g2, 0, none⟩) tl.length c2, .slice (some ⟨g3, 0, none⟩) wt.length c3] 25) := ⟨_, rfl⟩
  have hbV : Below w1.heap.size w1 V := by rw [hV]; exact below_alloc (Below.refl _ _) _
  have hVA : V.heap[w1.heap.size]? = some (.cells #[.int .i64 N, .slice (some ⟨g1, 0, none⟩) st.length c1, .slice (some ⟨g2, 0, none⟩) tl.length c2, .slice (some ⟨g3, 0, none⟩) wt.length c3] 25 (0, 0)) := by rw [hV]; exact heap_new _ _
  rw [← hV]
  have HTV := hide (HT.out.below hbV)
  have HBV := hide (below_on HB1.out hbV)
  obtain ⟨bx, hbx⟩ : ∃ bx, bx = w1.heap.size := ⟨_, rfl⟩
  rw [← hbx] at hVA ⊢
  have HK2 : Hid (∀ X, Below V.heap.size V X → (X.cell? ⟨w.heap.size, 0, none⟩ = some (.int .i64 N) ∧ X.cell? ⟨w.heap.size, 1, none⟩ = some va ∧ X.cell? ⟨w.heap.size, 2, none⟩ = some vb ∧ X.cell? ⟨w.heap.size, 3, none⟩ = some vc) ∧ (X.cell? ⟨bx, 0, none⟩ = some (.int .i64 N) ∧ X.cell? ⟨bx, 1, none⟩ = some (.slice (some ⟨g1, 0, none⟩) st.length c1) ∧ X.cell? ⟨bx, 2, none⟩ = some (.slice (some ⟨g2, 0, none⟩) tl.length c2) ∧ X.cell? ⟨bx, 3, none⟩ = some (.slice (some ⟨g3, 0, none⟩) wt.length c3))) := fun X hX => ⟨HK.out X (below_on HBV.out hX), box_keep hVA hX rfl, box_keep hVA hX rfl, box_keep hVA hX rfl, box_keep hVA hX rfl⟩
  have HOr : Hid (∀ X, Below V.heap.size V X → Calls Try.prog 20 #[.agg #[.int .i64 N, .slice (some ⟨g1, 0, none⟩) st.length c1, .slice (some ⟨g2, 0, none⟩) tl.length c2, .slice (some ⟨g3, 0, none⟩) wt.length c3]] X (LN X (l, E))) := fun X hX => by rw [HR.out]; exact ord_any N _ _ _ st tl wt X (HTV.out.below hX).gis B1.out B2.out B3.out
  have HRO : Hid (∀ X, Below V.heap.size V X → Calls Try.prog 21 #[.agg #[.int .i64 N, va, vb, vc]] X (LN X (l, E))) := fun X hX => by rw [HR.out]; exact refOrd_any N _ _ _ st tl wt X (HG.out.below (below_on HBV.out hX)) B1.out B2.out B3.out
  have HLo : Hid (∀ X, Below V.heap.size V X → Calls Try.prog 22 #[.agg #[.int .i64 N, .slice (some ⟨g1, 0, none⟩) st.length c1, .slice (some ⟨g2, 0, none⟩) tl.length c2, .slice (some ⟨g3, 0, none⟩) wt.length c3]] X (LN X (d, F))) := fun X hX => by rw [HQ.out]; exact lng_any N _ _ _ st tl wt X (HTV.out.below hX).gis B1.out B2.out B3.out
  have HRL : Hid (∀ X, Below V.heap.size V X → Calls Try.prog 23 #[.agg #[.int .i64 N, va, vb, vc]] X (LN X (d, F))) := fun X hX => by rw [HQ.out]; exact refLng_any N _ _ _ st tl wt X (HG.out.below (below_on HBV.out hX)) B1.out B2.out B3.out
  have HKp : Hid (∀ X, Below V.heap.size V X → Calls Try.prog 16 #[.agg #[.int .i64 N, .slice (some ⟨g1, 0, none⟩) st.length c1, .slice (some ⟨g2, 0, none⟩) tl.length c2, .slice (some ⟨g3, 0, none⟩) wt.length c3], .agg #[.int .i64 N, va, vb, vc]] X fun e w' => e = .returned (.bool true) ∧ Below X.heap.size X w') := fun X hX => kept_any N va vb vc st tl wt g1 c1 g2 c2 g3 c3 X (HTV.out.below hX) (HG.out.below (below_on HBV.out hX))
  clear hV hbV hVA hbx HT HB1
  have HBX : Hid (Below V.heap.size V V) := Below.refl _ _
  obtain ⟨⟨p0, p1, p2, p3⟩, q0, q1, q2, q3⟩ := HK2.out _ HBX.out
  go_wp2_with fail
  refine (HOr.out _ HBX.out).mono ?_
  rintro e w2 ⟨v2, rfl, hrow2, hb⟩
  replace HBX := hide (below_on HBX.out hb)
  have HV2 := hide hrow2
  clear p0 p1 p2 p3 q0 q1 q2 q3 hb hrow2
  obtain ⟨⟨p0, p1, p2, p3⟩, q0, q1, q2, q3⟩ := HK2.out _ HBX.out
  go_wp2_with fail
  refine (HRO.out _ HBX.out).mono ?_
  rintro e w3 ⟨v3, rfl, hrow3, hb⟩
  replace HBX := hide (below_on HBX.out hb)
  have HS1 := hide (lawSame_eq v2 v3 l w3 (HV2.out.below hb) hrow3)
  clear p0 p1 p2 p3 q0 q1 q2 q3 hb hrow3
  go_wp2_with fail
  refine HS1.out.mono ?_
  rintro e w4 ⟨rfl, hb⟩
  replace HBX := hide (below_on HBX.out hb)
  clear hb
  go_wp2_with fail
  refine (no_any E w4).mono ?_
  rintro e w4' ⟨rfl, hww⟩
  subst hww
  obtain ⟨⟨p0, p1, p2, p3⟩, q0, q1, q2, q3⟩ := HK2.out _ HBX.out
  go_wp2_with fail
  refine (HLo.out _ HBX.out).mono ?_
  rintro e w5 ⟨v5, rfl, hrow5, hb⟩
  replace HBX := hide (below_on HBX.out hb)
  have HV5 := hide hrow5
  clear p0 p1 p2 p3 q0 q1 q2 q3 hb hrow5
  obtain ⟨⟨p0, p1, p2, p3⟩, q0, q1, q2, q3⟩ := HK2.out _ HBX.out
  go_wp2_with fail
  refine (HRL.out _ HBX.out).mono ?_
  rintro e w6 ⟨v6, rfl, hrow6, hb⟩
  replace HBX := hide (below_on HBX.out hb)
  have HS2 := hide (lawSame_eq v5 v6 d w6 (HV5.out.below hb) hrow6)
  clear p0 p1 p2 p3 q0 q1 q2 q3 hb hrow6
  go_wp2_with fail
  refine HS2.out.mono ?_
  rintro e w7 ⟨rfl, hb⟩
  replace HBX := hide (below_on HBX.out hb)
  clear hb
  obtain ⟨⟨p0, p1, p2, p3⟩, q0, q1, q2, q3⟩ := HK2.out _ HBX.out
  go_wp2_with fail
  refine (no_any F w7).mono ?_
  rintro e w7' ⟨rfl, hww⟩
  subst hww
  go_wp2_with fail
  refine (HKp.out _ HBX.out).mono ?_
  rintro e w8 ⟨rfl, hb⟩
  replace HBX := hide (below_on HBX.out hb)
  clear hb p0 p1 p2 p3 q0 q1 q2 q3
  go_wp2_with fail
  go_ret
  exact ⟨rfl, below_on HBW.out (below_on HBV.out HBX.out)⟩
end Go.Proofs.Yteblkbneghbcbaa
