/- book.turns. -/
import Derived.Test.YtmagigmcbegmiaaTa
namespace Go.Proofs.Ytmagigmcbegmiaa
open Go.RowKit Go.Lib
set_option linter.unusedVariables false
set_option linter.unusedSimpArgs false
/-- Three lists of a graph in blocks between lo and hi. -/
structure OwB (x : World) (lo hi : Nat) (va vb vc : Value) (st tl wt : List Int) : Prop where
  og : OwG x lo va vb vc st tl wt
  l1 : ∀ g, va.ownBlock = some g → g < hi
  l2 : ∀ g, vb.ownBlock = some g → g < hi
  l3 : ∀ g, vc.ownBlock = some g → g < hi
theorem OwB.mk' {w x : World} {H : Nat} {va vb vc : Value} {st tl wt : List Int} (h : OwG w H va vb vc st tl wt) (hb : Below w.heap.size w x) : OwB x H w.heap.size va vb vc st tl wt := ⟨h.below hb, fun g hg => (h.s.lt g hg).2, fun g hg => (h.t.lt g hg).2, fun g hg => (h.u.lt g hg).2⟩
theorem OwB.stay {w w' : World} {lo hi : Nat} {va vb vc : Value} {st tl wt : List Int} (h : OwB w lo hi va vb vc st tl wt) (hs : ∀ (b : Nat) (cur : Array Value) (t : TypeId), w.heap[b]? = some (.cells cur t (0, 0)) → t ≠ 22 → t ≠ 23 → t ≠ 45 → t ≠ 56 → w'.heap[b]? = w.heap[b]?) : OwB w' lo hi va vb vc st tl wt :=
  ⟨⟨ownA_stay h.og.s (fun g hg => let ⟨c, hc⟩ := ownA_type h.og.s hg; hs g c _ hc (by decide) (by decide) (by decide) (by decide)), ownA_stay h.og.t (fun g hg => let ⟨c, hc⟩ := ownA_type h.og.t hg; hs g c _ hc (by decide) (by decide) (by decide) (by decide)), ownA_stay h.og.u (fun g hg => let ⟨c, hc⟩ := ownA_type h.og.u hg; hs g c _ hc (by decide) (by decide) (by decide) (by decide)), h.og.ne, h.og.len⟩, h.l1, h.l2, h.l3⟩
theorem OwB.lo {x : World} {lo lo' hi : Nat} {va vb vc : Value} {st tl wt : List Int} (h : OwB x lo hi va vb vc st tl wt) (hl : lo' ≤ lo) : OwB x lo' hi va vb vc st tl wt := ⟨⟨ownA_base h.og.s hl, ownA_base h.og.t hl, ownA_base h.og.u hl, h.og.ne, h.og.len⟩, h.l1, h.l2, h.l3⟩
/-- What turns puts into the book. -/
structure TD (H : Nat) (x : World) (xv a1 b1 c1 a2 b2 c2 a3 b3 c3 : Value) (l : List Ed3) (p1 q1 r1 p2 q2 r2 p3 q3 r3 : List Int) : Prop where
  oe : x.ownsRow H 50 3 xv l.length (eCells l)
  le : l.length ≤ 1099511627776
  og : ∃ h1 h2 h3, OwB x H h1 a1 b1 c1 p1 q1 r1 ∧ OwB x h1 h2 a2 b2 c2 p2 q2 r2 ∧ OwB x h2 h3 a3 b3 c3 p3 q3 r3 ∧ H ≤ h1 ∧ h1 ≤ h2
theorem TD.stay {w w' : World} {H : Nat} {xv a1 b1 c1 a2 b2 c2 a3 b3 c3 : Value} {l : List Ed3} {p1 q1 r1 p2 q2 r2 p3 q3 r3 : List Int} (h : TD H w xv a1 b1 c1 a2 b2 c2 a3 b3 c3 l p1 q1 r1 p2 q2 r2 p3 q3 r3) (hs : ∀ (b : Nat) (cur : Array Value) (t : TypeId), w.heap[b]? = some (.cells cur t (0, 0)) → t ≠ 22 → t ≠ 23 → t ≠ 45 → t ≠ 56 → w'.heap[b]? = w.heap[b]?) : TD H w' xv a1 b1 c1 a2 b2 c2 a3 b3 c3 l p1 q1 r1 p2 q2 r2 p3 q3 r3 := by
  obtain ⟨h1, h2, h3, k1, k2, k3, k4⟩ := h.og
  exact ⟨ownA_stay h.oe (fun g hg => let ⟨c, hc⟩ := ownA_type h.oe hg; hs g c _ hc (by decide) (by decide) (by decide) (by decide)), h.le, h1, h2, h3, k1.stay hs, k2.stay hs, k3.stay hs, k4⟩
theorem TD.low {w : World} {H H' : Nat} {xv a1 b1 c1 a2 b2 c2 a3 b3 c3 : Value} {l : List Ed3} {p1 q1 r1 p2 q2 r2 p3 q3 r3 : List Int} (h : TD H w xv a1 b1 c1 a2 b2 c2 a3 b3 c3 l p1 q1 r1 p2 q2 r2 p3 q3 r3) (hl : H' ≤ H) : TD H' w xv a1 b1 c1 a2 b2 c2 a3 b3 c3 l p1 q1 r1 p2 q2 r2 p3 q3 r3 := by
  obtain ⟨h1, h2, h3, k1, k2, k3, k4, k5⟩ := h.og
  exact ⟨ownA_base h.oe hl, h.le, h1, h2, h3, k1.lo hl, k2, k3, by omega, k5⟩
theorem ownE_below {w w' : World} {H m : Nat} {v : Value} {xs : List Value} (h : w.ownsRow H 50 3 v m xs) (hb : Below w.heap.size w w') : w'.ownsRow H 50 3 v m xs := ownA_stay h (fun g hg => hb.block g (h.lt g hg).2)
set_option maxRecDepth 100000 in
set_option maxHeartbeats 8000000 in
theorem turns_any (base B : Nat) (N : Int) (va vb vc va' vb' vc' : Value) (st tl wt : List Int) (L1 L2 L3 : List Value) (w : World) (hk : BkE base B w L1 L2 L3) (hg : GIs w N va vb vc st tl wt) (hg' : GIs w N va' vb' vc' st tl wt) (hst : st.length ≤ 17592186044416) (hto : tl.length ≤ 17592186044416) (hwt : wt.length ≤ 17592186044416) (hw : ∀ e, 0 ≤ at_ wt e) (hl1 : L1.length ≤ 900) (hl2 : L2.length ≤ 900) (hl3 : L3.length ≤ 900) :
    Calls Try.prog 41 #[.pointer (some ⟨B, 0, none⟩), gAgg N va vb vc, gAgg N va' vb' vc'] w fun e w' => e = .returned (.bool true) ∧ HdE base 0 w w' ∧ ∃ xv a1 b1 c1 a2 b2 c2 a3 b3 c3 l p1 q1 r1 p2 q2 r2 p3 q3 r3, BkE base B w' (L1 ++ [a1, b1] ++ [a2, b2] ++ [a3, b3]) (L2 ++ [c1] ++ [c2] ++ [c3]) (L3 ++ [xv]) ∧ TD w.heap.size w' xv a1 b1 c1 a2 b2 c2 a3 b3 c3 l p1 q1 r1 p2 q2 r2 p3 q3 r3 := by
  obtain ⟨i0, ti, tz0, tz1, tz2⟩ := info_parts3 Try.info45A
  obtain ⟨W, hW⟩ : ∃ W, W = (w.alloc (.cells #[.int .i64 N, va, vb, vc] 25)).alloc (.cells #[.int .i64 N, va', vb', vc'] 25) := ⟨_, rfl⟩
  have hb1 : Below w.heap.size w (w.alloc (.cells #[.int .i64 N, va, vb, vc] 25)) := below_alloc (Below.refl _ _) _
  have hbW : Below w.heap.size w W := by rw [hW]; exact below_alloc hb1 _
  have hA : W.heap[w.heap.size]? = some (.cells #[.int .i64 N, va, vb, vc] 25 (0, 0)) := by
    rw [hW]; exact (Below.heap_alloc _ _ _ (by simp)).trans (heap_new w _)
  have hB : W.heap[w.heap.size + 1]? = some (.cells #[.int .i64 N, va', vb', vc'] 25 (0, 0)) := by
    have := heap_new (w.alloc (.cells #[.int .i64 N, va, vb, vc] 25)) (.cells #[.int .i64 N, va', vb', vc'] 25)
    rw [hW]; simpa using this
  have HCA : Hid (∀ X, Below W.heap.size W X → X.heap[w.heap.size]? = some (.cells #[.int .i64 N, va, vb, vc] 25 (0, 0))) := fun X hX => (hX.block _ (lt_of_heap hA)).trans hA
  have HCB : Hid (∀ X, Below W.heap.size W X → X.heap[w.heap.size + 1]? = some (.cells #[.int .i64 N, va', vb', vc'] 25 (0, 0))) := fun X hX => (hX.block _ (lt_of_heap hB)).trans hB
  have HBX : Hid (∀ X, Below W.heap.size W X → Below w.heap.size w X) := fun X hX => below_on hbW hX
  have HC1 : Hid (∀ X, Below W.heap.size W X → Calls Try.prog 29 #[gAgg N va vb vc] X (EAns X (EdA N st tl wt))) := fun X hX => edges_ans N va vb vc st tl wt X (hg.below (HBX.out X hX)) hst hto hwt
  have HC2 : Hid (∀ X, Below W.heap.size W X → Calls Try.prog 78 #[gAgg N va' vb' vc'] X (EAnR X (EdA N st tl wt))) := fun X hX => edgesR_ans N va' vb' vc' st tl wt X (hg'.below (HBX.out X hX)) hst hto hwt
  have HC3 : Hid (∀ X, Below W.heap.size W X → Calls Try.prog 33 #[gAgg N va vb vc] X (GAns X (TuA N st tl wt))) := fun X hX => turn_ans N va vb vc st tl wt X (hg.below (HBX.out X hX)) hst hto hwt hw
  have HC4 : Hid (∀ X, Below W.heap.size W X → Calls Try.prog 79 #[gAgg N va' vb' vc'] X (GAnR X (TuA N st tl wt))) := fun X hX => turnR_ans N va' vb' vc' st tl wt X (hg'.below (HBX.out X hX)) hst hto hwt hw
  have HC5 : Hid (∀ X, Below W.heap.size W X → Calls Try.prog 35 #[gAgg N va vb vc] X (GAns X (SrA N st tl wt))) := fun X hX => sort_ans N va vb vc st tl wt X (hg.below (HBX.out X hX)) hst hto hwt hw
  have HC6 : Hid (∀ X, Below W.heap.size W X → Calls Try.prog 80 #[gAgg N va' vb' vc'] X (GAnR X (SrA N st tl wt))) := fun X hX => sortR_ans N va' vb' vc' st tl wt X (hg'.below (HBX.out X hX)) hst hto hwt hw
  have HC7 : Hid (∀ X, Below W.heap.size W X → Calls Try.prog 36 #[gAgg N va vb vc] X (GAns X (MeA N st tl wt))) := fun X hX => merge_ans N va vb vc st tl wt X (hg.below (HBX.out X hX)) hst hto hwt hw
  have HC8 : Hid (∀ X, Below W.heap.size W X → Calls Try.prog 81 #[gAgg N va' vb' vc'] X (GAnR X (MeA N st tl wt))) := fun X hX => mergeR_ans N va' vb' vc' st tl wt X (hg'.below (HBX.out X hX)) hst hto hwt hw
  have HSW : Hid (w.heap.size + 1 < W.heap.size) := lt_of_heap hB
  have HK := hide hk
  have HX0 : Hid (Below W.heap.size W W) := Below.refl _ _
  unfold gAgg at HC1 HC2 HC3 HC4 HC5 HC6 HC7 HC8 ⊢
  have hqa := HCA.out W HX0.out
  have a0 := cell_of hqa (i := 0) rfl; have a1 := cell_of hqa (i := 1) rfl; have a2 := cell_of hqa (i := 2) rfl; have a3 := cell_of hqa (i := 3) rfl
  clear hk hg hg' hst hto hwt hw hA hB hb1 hqa hbW
  go_enter Try.func41, Try.ntmps41
  rw [hW] at a0 a1 a2 a3
  go_wp2_with fail
  rw [← hW]
  clear hW a0 a1 a2 a3
  refine (HC1.out W HX0.out).mono ?_
  clear HC1
  rintro e w1 ⟨N1, xv, l, s1, rfl, hR1, hO1, hL1, hb1⟩
  have HR1 := hide hR1; have HO1 := hide hO1; have HLn := hide hL1; have HV1 := hide (below_on HX0.out hb1); have HD1 := hide hb1
  clear hR1 hO1 hL1 hb1
  obtain ⟨xo, xc, hxv, _⟩ := ownE_shape HO1.out
  subst hxv
  obtain ⟨x1, hx1⟩ : ∃ x1, x1 = w1.alloc (.cells #[.int .i64 N1, .slice xo l.length xc] 47) := ⟨_, rfl⟩
  have hF1 : Below w1.heap.size w1 x1 := by rw [hx1]; exact below_alloc (Below.refl _ _) _
  have HY1 : Hid (x1.heap[w1.heap.size]? = some (.cells #[.int .i64 N1, .slice xo l.length xc] 47 (0, 0))) := by rw [hx1]; exact heap_new _ _
  have HX1 := hide (below_on HV1.out hF1); have HF1 := hide hF1
  clear hF1
  have hqa := HCB.out x1 HX1.out
  have a0 := cell_of hqa (i := 0) rfl; have a1 := cell_of hqa (i := 1) rfl; have a2 := cell_of hqa (i := 2) rfl; have a3 := cell_of hqa (i := 3) rfl
  clear hqa
  rw [hx1] at a0 a1 a2 a3
  go_wp2_with fail
  rw [← hx1]
  clear a0 a1 a2 a3 hx1
  refine (HC2.out x1 HX1.out).mono ?_
  clear HC2
  rintro e w2 ⟨N2, yv, l', s2, rfl, hR2, hE2, hb2⟩
  obtain ⟨rfl, rfl, rfl⟩ := HR1.out.one hR2
  have HE2 := hide hE2; have HV2 := hide (below_on HX1.out hb2); have HD2 := hide hb2
  clear hR2 hE2 hb2
  obtain ⟨yo, yc, hyv, _⟩ := EAt.shp HE2.out
  subst hyv
  obtain ⟨x2, hx2⟩ : ∃ x2, x2 = w2.alloc (.cells #[.int .i64 N1, .slice yo l.length yc] 47) := ⟨_, rfl⟩
  have hF2 : Below w2.heap.size w2 x2 := by rw [hx2]; exact below_alloc (Below.refl _ _) _
  have HY2 : Hid (x2.heap[w2.heap.size]? = some (.cells #[.int .i64 N1, .slice yo l.length yc] 47 (0, 0))) := by rw [hx2]; exact heap_new _ _
  have HX2 := hide (below_on HV2.out hF2); have HF2 := hide hF2
  clear hF2
  have hqa := HCA.out x2 HX2.out
  have a0 := cell_of hqa (i := 0) rfl; have a1 := cell_of hqa (i := 1) rfl; have a2 := cell_of hqa (i := 2) rfl; have a3 := cell_of hqa (i := 3) rfl
  clear hqa
  rw [hx2] at a0 a1 a2 a3
  go_wp2_with fail
  rw [← hx2]
  clear a0 a1 a2 a3 hx2
  refine (HC3.out x2 HX2.out).mono ?_
  clear HC3
  rintro e w3 ⟨M1, ga1, gb1, gc1, p1, q1, r1, s3, rfl, hR3, hO3, hb3⟩
  have HR3 := hide hR3; have HO3 := hide hO3; have HV3 := hide (below_on HX2.out hb3); have HD3 := hide hb3
  clear hR3 hO3 hb3
  obtain ⟨ao1, ca1, hva, _⟩ := ownA_shape HO3.out.s
  obtain ⟨bo1, cb1, hvb, _⟩ := ownA_shape HO3.out.t
  obtain ⟨co1, cc1, hvc, _⟩ := ownA_shape HO3.out.u
  subst hva hvb hvc
  obtain ⟨x3, hx3⟩ : ∃ x3, x3 = w3.alloc (.cells #[.int .i64 M1, .slice ao1 p1.length ca1, .slice bo1 q1.length cb1, .slice co1 r1.length cc1] 25) := ⟨_, rfl⟩
  have hF3 : Below w3.heap.size w3 x3 := by rw [hx3]; exact below_alloc (Below.refl _ _) _
  have HY3 : Hid (x3.heap[w3.heap.size]? = some (.cells #[.int .i64 M1, .slice ao1 p1.length ca1, .slice bo1 q1.length cb1, .slice co1 r1.length cc1] 25 (0, 0))) := by rw [hx3]; exact heap_new _ _
  have HX3 := hide (below_on HV3.out hF3); have HF3 := hide hF3
  clear hF3
  have hqa := HCB.out x3 HX3.out
  have a0 := cell_of hqa (i := 0) rfl; have a1 := cell_of hqa (i := 1) rfl; have a2 := cell_of hqa (i := 2) rfl; have a3 := cell_of hqa (i := 3) rfl
  clear hqa
  rw [hx3] at a0 a1 a2 a3
  unfold gAgg
  go_wp2_with fail
  rw [← hx3]
  clear a0 a1 a2 a3 hx3
  refine (HC4.out x3 HX3.out).mono ?_
  clear HC4
  rintro e w4 ⟨M', ha1, hb1_, hc1, p', q', r', s4, rfl, hR4, hG4, hb4⟩
  obtain ⟨rfl, rfl, rfl, rfl, rfl⟩ := HR3.out.one hR4
  obtain ⟨do1, da1, rfl⟩ := hG4.s.shape
  obtain ⟨eo1, ea1, rfl⟩ := hG4.t.shape
  obtain ⟨fo1, fa1, rfl⟩ := hG4.u.shape
  have HG4 := hide hG4; have HV4 := hide (below_on HX3.out hb4); have HD4 := hide hb4
  clear hR4 hG4 hb4
  obtain ⟨x4, hx4⟩ : ∃ x4, x4 = w4.alloc (.cells #[.int .i64 M1, .slice do1 p1.length da1, .slice eo1 q1.length ea1, .slice fo1 r1.length fa1] 25) := ⟨_, rfl⟩
  have hF4 : Below w4.heap.size w4 x4 := by rw [hx4]; exact below_alloc (Below.refl _ _) _
  have HY4 : Hid (x4.heap[w4.heap.size]? = some (.cells #[.int .i64 M1, .slice do1 p1.length da1, .slice eo1 q1.length ea1, .slice fo1 r1.length fa1] 25 (0, 0))) := by rw [hx4]; exact heap_new _ _
  have HX4 := hide (below_on HV4.out hF4); have HF4 := hide hF4
  clear hF4
  have hqa := HCA.out x4 HX4.out
  have a0 := cell_of hqa (i := 0) rfl; have a1 := cell_of hqa (i := 1) rfl; have a2 := cell_of hqa (i := 2) rfl; have a3 := cell_of hqa (i := 3) rfl
  clear hqa
  rw [hx4] at a0 a1 a2 a3
  unfold gAgg
  go_wp2_with fail
  rw [← hx4]
  clear a0 a1 a2 a3 hx4
  refine (HC5.out x4 HX4.out).mono ?_
  clear HC5
  rintro e w5 ⟨M2, ga2, gb2, gc2, p2, q2, r2, s5, rfl, hR5, hO5, hb5⟩
  have HR5 := hide hR5; have HO5 := hide hO5; have HV5 := hide (below_on HX4.out hb5); have HD5 := hide hb5
  clear hR5 hO5 hb5
  obtain ⟨ao2, ca2, hva, _⟩ := ownA_shape HO5.out.s
  obtain ⟨bo2, cb2, hvb, _⟩ := ownA_shape HO5.out.t
  obtain ⟨co2, cc2, hvc, _⟩ := ownA_shape HO5.out.u
  subst hva hvb hvc
  obtain ⟨x5, hx5⟩ : ∃ x5, x5 = w5.alloc (.cells #[.int .i64 M2, .slice ao2 p2.length ca2, .slice bo2 q2.length cb2, .slice co2 r2.length cc2] 25) := ⟨_, rfl⟩
  have hF5 : Below w5.heap.size w5 x5 := by rw [hx5]; exact below_alloc (Below.refl _ _) _
  have HY5 : Hid (x5.heap[w5.heap.size]? = some (.cells #[.int .i64 M2, .slice ao2 p2.length ca2, .slice bo2 q2.length cb2, .slice co2 r2.length cc2] 25 (0, 0))) := by rw [hx5]; exact heap_new _ _
  have HX5 := hide (below_on HV5.out hF5); have HF5 := hide hF5
  clear hF5
  have hqa := HCB.out x5 HX5.out
  have a0 := cell_of hqa (i := 0) rfl; have a1 := cell_of hqa (i := 1) rfl; have a2 := cell_of hqa (i := 2) rfl; have a3 := cell_of hqa (i := 3) rfl
  clear hqa
  rw [hx5] at a0 a1 a2 a3
  unfold gAgg
  go_wp2_with fail
  rw [← hx5]
  clear a0 a1 a2 a3 hx5
  refine (HC6.out x5 HX5.out).mono ?_
  clear HC6
  rintro e w6 ⟨M', ha2, hb2_, hc2, p', q', r', s6, rfl, hR6, hG6, hb6⟩
  obtain ⟨rfl, rfl, rfl, rfl, rfl⟩ := HR5.out.one hR6
  obtain ⟨do2, da2, rfl⟩ := hG6.s.shape
  obtain ⟨eo2, ea2, rfl⟩ := hG6.t.shape
  obtain ⟨fo2, fa2, rfl⟩ := hG6.u.shape
  have HG6 := hide hG6; have HV6 := hide (below_on HX5.out hb6); have HD6 := hide hb6
  clear hR6 hG6 hb6
  obtain ⟨x6, hx6⟩ : ∃ x6, x6 = w6.alloc (.cells #[.int .i64 M2, .slice do2 p2.length da2, .slice eo2 q2.length ea2, .slice fo2 r2.length fa2] 25) := ⟨_, rfl⟩
  have hF6 : Below w6.heap.size w6 x6 := by rw [hx6]; exact below_alloc (Below.refl _ _) _
  have HY6 : Hid (x6.heap[w6.heap.size]? = some (.cells #[.int .i64 M2, .slice do2 p2.length da2, .slice eo2 q2.length ea2, .slice fo2 r2.length fa2] 25 (0, 0))) := by rw [hx6]; exact heap_new _ _
  have HX6 := hide (below_on HV6.out hF6); have HF6 := hide hF6
  clear hF6
  have hqa := HCA.out x6 HX6.out
  have a0 := cell_of hqa (i := 0) rfl; have a1 := cell_of hqa (i := 1) rfl; have a2 := cell_of hqa (i := 2) rfl; have a3 := cell_of hqa (i := 3) rfl
  clear hqa
  rw [hx6] at a0 a1 a2 a3
  unfold gAgg
  go_wp2_with fail
  rw [← hx6]
  clear a0 a1 a2 a3 hx6
  refine (HC7.out x6 HX6.out).mono ?_
  clear HC7
  rintro e w7 ⟨M3, ga3, gb3, gc3, p3, q3, r3, s7, rfl, hR7, hO7, hb7⟩
  have HR7 := hide hR7; have HO7 := hide hO7; have HV7 := hide (below_on HX6.out hb7); have HD7 := hide hb7
  clear hR7 hO7 hb7
  obtain ⟨ao3, ca3, hva, _⟩ := ownA_shape HO7.out.s
  obtain ⟨bo3, cb3, hvb, _⟩ := ownA_shape HO7.out.t
  obtain ⟨co3, cc3, hvc, _⟩ := ownA_shape HO7.out.u
  subst hva hvb hvc
  obtain ⟨x7, hx7⟩ : ∃ x7, x7 = w7.alloc (.cells #[.int .i64 M3, .slice ao3 p3.length ca3, .slice bo3 q3.length cb3, .slice co3 r3.length cc3] 25) := ⟨_, rfl⟩
  have hF7 : Below w7.heap.size w7 x7 := by rw [hx7]; exact below_alloc (Below.refl _ _) _
  have HY7 : Hid (x7.heap[w7.heap.size]? = some (.cells #[.int .i64 M3, .slice ao3 p3.length ca3, .slice bo3 q3.length cb3, .slice co3 r3.length cc3] 25 (0, 0))) := by rw [hx7]; exact heap_new _ _
  have HX7 := hide (below_on HV7.out hF7); have HF7 := hide hF7
  clear hF7
  have hqa := HCB.out x7 HX7.out
  have a0 := cell_of hqa (i := 0) rfl; have a1 := cell_of hqa (i := 1) rfl; have a2 := cell_of hqa (i := 2) rfl; have a3 := cell_of hqa (i := 3) rfl
  clear hqa
  rw [hx7] at a0 a1 a2 a3
  unfold gAgg
  go_wp2_with fail
  rw [← hx7]
  clear a0 a1 a2 a3 hx7
  refine (HC8.out x7 HX7.out).mono ?_
  clear HC8
  rintro e w8 ⟨M', ha3, hb3_, hc3, p', q', r', s8, rfl, hR8, hG8, hb8⟩
  obtain ⟨rfl, rfl, rfl, rfl, rfl⟩ := HR7.out.one hR8
  obtain ⟨do3, da3, rfl⟩ := hG8.s.shape
  obtain ⟨eo3, ea3, rfl⟩ := hG8.t.shape
  obtain ⟨fo3, fa3, rfl⟩ := hG8.u.shape
  have HG8 := hide hG8; have HV8 := hide (below_on HX7.out hb8); have HD8 := hide hb8
  clear hR8 hG8 hb8
  obtain ⟨x8, hx8⟩ : ∃ x8, x8 = w8.alloc (.cells #[.int .i64 M3, .slice do3 p3.length da3, .slice eo3 q3.length ea3, .slice fo3 r3.length fa3] 25) := ⟨_, rfl⟩
  have hF8 : Below w8.heap.size w8 x8 := by rw [hx8]; exact below_alloc (Below.refl _ _) _
  have HY8 : Hid (x8.heap[w8.heap.size]? = some (.cells #[.int .i64 M3, .slice do3 p3.length da3, .slice eo3 q3.length ea3, .slice fo3 r3.length fa3] 25 (0, 0))) := by rw [hx8]; exact heap_new _ _
  have HX8 := hide (below_on HV8.out hF8); have HF8 := hide hF8
  clear hF8
  clear HCA HCB
  have HZ8 : Hid (Below x8.heap.size x8 x8) := Below.refl _ _
  have HQ8 : Hid (Below w8.heap.size w8 x8) := below_on HF8.out HZ8.out
  have HZ7 : Hid (Below x7.heap.size x7 x8) := below_on HD8.out HQ8.out
  have HQ7 : Hid (Below w7.heap.size w7 x8) := below_on HF7.out HZ7.out
  have HZ6 : Hid (Below x6.heap.size x6 x8) := below_on HD7.out HQ7.out
  have HQ6 : Hid (Below w6.heap.size w6 x8) := below_on HF6.out HZ6.out
  have HZ5 : Hid (Below x5.heap.size x5 x8) := below_on HD6.out HQ6.out
  have HQ5 : Hid (Below w5.heap.size w5 x8) := below_on HF5.out HZ5.out
  have HZ4 : Hid (Below x4.heap.size x4 x8) := below_on HD5.out HQ5.out
  have HQ4 : Hid (Below w4.heap.size w4 x8) := below_on HF4.out HZ4.out
  have HZ3 : Hid (Below x3.heap.size x3 x8) := below_on HD4.out HQ4.out
  have HQ3 : Hid (Below w3.heap.size w3 x8) := below_on HF3.out HZ3.out
  have HZ2 : Hid (Below x2.heap.size x2 x8) := below_on HD3.out HQ3.out
  have HQ2 : Hid (Below w2.heap.size w2 x8) := below_on HF2.out HZ2.out
  have HZ1 : Hid (Below x1.heap.size x1 x8) := below_on HD2.out HQ2.out
  have HQ1 : Hid (Below w1.heap.size w1 x8) := below_on HF1.out HZ1.out
  obtain ⟨B1, hB1⟩ : ∃ B1, B1 = w1.heap.size := ⟨_, rfl⟩
  obtain ⟨B2, hB2⟩ : ∃ B2, B2 = w2.heap.size := ⟨_, rfl⟩
  obtain ⟨B3, hB3⟩ : ∃ B3, B3 = w3.heap.size := ⟨_, rfl⟩
  obtain ⟨B4, hB4⟩ : ∃ B4, B4 = w4.heap.size := ⟨_, rfl⟩
  obtain ⟨B5, hB5⟩ : ∃ B5, B5 = w5.heap.size := ⟨_, rfl⟩
  obtain ⟨B6, hB6⟩ : ∃ B6, B6 = w6.heap.size := ⟨_, rfl⟩
  obtain ⟨B7, hB7⟩ : ∃ B7, B7 = w7.heap.size := ⟨_, rfl⟩
  obtain ⟨B8, hB8⟩ : ∃ B8, B8 = w8.heap.size := ⟨_, rfl⟩

  have HBC : Hid (∀ X, Below x8.heap.size x8 X → X.heap[B1]? = some (.cells #[.int .i64 N1, .slice xo l.length xc] 47 (0, 0)) ∧ X.heap[B2]? = some (.cells #[.int .i64 N1, .slice yo l.length yc] 47 (0, 0)) ∧ X.heap[B3]? = some (.cells #[.int .i64 M1, .slice ao1 p1.length ca1, .slice bo1 q1.length cb1, .slice co1 r1.length cc1] 25 (0, 0)) ∧ X.heap[B4]? = some (.cells #[.int .i64 M1, .slice do1 p1.length da1, .slice eo1 q1.length ea1, .slice fo1 r1.length fa1] 25 (0, 0)) ∧ X.heap[B5]? = some (.cells #[.int .i64 M2, .slice ao2 p2.length ca2, .slice bo2 q2.length cb2, .slice co2 r2.length cc2] 25 (0, 0)) ∧ X.heap[B6]? = some (.cells #[.int .i64 M2, .slice do2 p2.length da2, .slice eo2 q2.length ea2, .slice fo2 r2.length fa2] 25 (0, 0)) ∧ X.heap[B7]? = some (.cells #[.int .i64 M3, .slice ao3 p3.length ca3, .slice bo3 q3.length cb3, .slice co3 r3.length cc3] 25 (0, 0)) ∧ X.heap[B8]? = some (.cells #[.int .i64 M3, .slice do3 p3.length da3, .slice eo3 q3.length ea3, .slice fo3 r3.length fa3] 25 (0, 0))) := fun X hX => by
    rw [hB1, hB2, hB3, hB4, hB5, hB6, hB7, hB8]
    exact ⟨(hX.block _ (Nat.lt_of_lt_of_le (lt_of_heap HY1.out) HZ1.out.size)).trans ((HZ1.out.block _ (lt_of_heap HY1.out)).trans HY1.out), (hX.block _ (Nat.lt_of_lt_of_le (lt_of_heap HY2.out) HZ2.out.size)).trans ((HZ2.out.block _ (lt_of_heap HY2.out)).trans HY2.out), (hX.block _ (Nat.lt_of_lt_of_le (lt_of_heap HY3.out) HZ3.out.size)).trans ((HZ3.out.block _ (lt_of_heap HY3.out)).trans HY3.out), (hX.block _ (Nat.lt_of_lt_of_le (lt_of_heap HY4.out) HZ4.out.size)).trans ((HZ4.out.block _ (lt_of_heap HY4.out)).trans HY4.out), (hX.block _ (Nat.lt_of_lt_of_le (lt_of_heap HY5.out) HZ5.out.size)).trans ((HZ5.out.block _ (lt_of_heap HY5.out)).trans HY5.out), (hX.block _ (Nat.lt_of_lt_of_le (lt_of_heap HY6.out) HZ6.out.size)).trans ((HZ6.out.block _ (lt_of_heap HY6.out)).trans HY6.out), (hX.block _ (Nat.lt_of_lt_of_le (lt_of_heap HY7.out) HZ7.out.size)).trans ((HZ7.out.block _ (lt_of_heap HY7.out)).trans HY7.out), (hX.block _ (Nat.lt_of_lt_of_le (lt_of_heap HY8.out) HZ8.out.size)).trans ((HZ8.out.block _ (lt_of_heap HY8.out)).trans HY8.out)⟩
  have HTD : Hid (TD W.heap.size x8 (.slice xo l.length xc) (.slice ao1 p1.length ca1) (.slice bo1 q1.length cb1) (.slice co1 r1.length cc1) (.slice ao2 p2.length ca2) (.slice bo2 q2.length cb2) (.slice co2 r2.length cc2) (.slice ao3 p3.length ca3) (.slice bo3 q3.length cb3) (.slice co3 r3.length cc3) l p1 q1 r1 p2 q2 r2 p3 q3 r3) := by
    have z1 := HD1.out.size; have y1 := HF1.out.size; have z2 := HD2.out.size; have y2 := HF2.out.size; have z3 := HD3.out.size; have y3 := HF3.out.size; have z4 := HD4.out.size; have y4 := HF4.out.size; have z5 := HD5.out.size; have y5 := HF5.out.size; have z6 := HD6.out.size; have y6 := HF6.out.size
    exact ⟨ownE_below HO1.out HQ1.out, HLn.out, w3.heap.size, w5.heap.size, w7.heap.size, (OwB.mk' HO3.out HQ3.out).lo (by omega), (OwB.mk' HO5.out HQ5.out).lo (by omega), (OwB.mk' HO7.out HQ7.out).lo (by omega), by omega, by omega⟩
  have HS1 : Hid (∀ X, Below x8.heap.size x8 X → Calls Try.prog 23 #[.slice xo l.length xc, .slice yo l.length yc] X fun e w' => e = .returned (.bool true) ∧ Below X.heap.size X w') := fun X hX => sameEdges_any _ _ l X ((EAt.of_owns (l := l) (ownE_below HO1.out HQ1.out)).below hX) ((HE2.out.below HQ2.out).below hX)
  have HT1 : Hid (∀ X, Below x8.heap.size x8 X → Calls Try.prog 46 #[.agg #[.int .i64 M1, .slice ao1 p1.length ca1, .slice bo1 q1.length cb1, .slice co1 r1.length cc1], .agg #[.int .i64 M1, .slice do1 p1.length da1, .slice eo1 q1.length ea1, .slice fo1 r1.length fa1]] X fun e w' => e = .returned (.bool true) ∧ Below X.heap.size X w') := fun X hX => sameG_any M1 _ _ _ _ _ _ p1 q1 r1 X ((HO3.out.gis.below HQ3.out).below hX) ((HG4.out.below HQ4.out).below hX) (by have := HO3.out.len.2.2; omega)
  have HT2 : Hid (∀ X, Below x8.heap.size x8 X → Calls Try.prog 46 #[.agg #[.int .i64 M2, .slice ao2 p2.length ca2, .slice bo2 q2.length cb2, .slice co2 r2.length cc2], .agg #[.int .i64 M2, .slice do2 p2.length da2, .slice eo2 q2.length ea2, .slice fo2 r2.length fa2]] X fun e w' => e = .returned (.bool true) ∧ Below X.heap.size X w') := fun X hX => sameG_any M2 _ _ _ _ _ _ p2 q2 r2 X ((HO5.out.gis.below HQ5.out).below hX) ((HG6.out.below HQ6.out).below hX) (by have := HO5.out.len.2.2; omega)
  have HT3 : Hid (∀ X, Below x8.heap.size x8 X → Calls Try.prog 46 #[.agg #[.int .i64 M3, .slice ao3 p3.length ca3, .slice bo3 q3.length cb3, .slice co3 r3.length cc3], .agg #[.int .i64 M3, .slice do3 p3.length da3, .slice eo3 q3.length ea3, .slice fo3 r3.length fa3]] X fun e w' => e = .returned (.bool true) ∧ Below X.heap.size X w') := fun X hX => sameG_any M3 _ _ _ _ _ _ p3 q3 r3 X ((HO7.out.gis.below HQ7.out).below hX) ((HG8.out.below HQ8.out).below hX) (by have := HO7.out.len.2.2; omega)
  have HX9 : Hid (Below w.heap.size w x8 ∧ w.heap.size ≤ W.heap.size) := ⟨HBX.out x8 HX8.out, (HBX.out W HX0.out).size⟩
  obtain ⟨p1_, p2_, p3_, p4_, p5_, p6_, p7_, p8_⟩ := HBC.out x8 (Below.refl _ _)
  have c1 := cell_of p1_ (i := 0) rfl; have c2 := cell_of p1_ (i := 1) rfl; have d1 := cell_of p2_ (i := 0) rfl; have d2 := cell_of p2_ (i := 1) rfl
  clear p1_ p2_ p3_ p4_ p5_ p6_ p7_ p8_
  rw [hx8] at c1 c2 d1 d2
  unfold gAgg
  rw [← hB1, ← hB2, ← hB3, ← hB4, ← hB5, ← hB6, ← hB7]
  clear hB1 hB2 hB3 hB4 hB5 hB6 hB7
  go_wp2_with fail
  rw [← hB8, ← hx8]
  clear hB8
  clear c1 c2 d1 d2
  refine (HS1.out x8 (Below.refl _ _)).mono ?_
  rintro e u1 ⟨rfl, hu1⟩
  have HU1 := hide hu1
  clear hu1 HS1 hx8
  obtain ⟨p1_, p2_, p3_, p4_, p5_, p6_, p7_, p8_⟩ := HBC.out u1 HU1.out
  have e0 := cell_of p3_ (i := 0) rfl; have e1 := cell_of p3_ (i := 1) rfl; have e2 := cell_of p3_ (i := 2) rfl; have e3 := cell_of p3_ (i := 3) rfl
  have f0 := cell_of p4_ (i := 0) rfl; have f1 := cell_of p4_ (i := 1) rfl; have f2 := cell_of p4_ (i := 2) rfl; have f3 := cell_of p4_ (i := 3) rfl
  clear p1_ p2_ p3_ p4_ p5_ p6_ p7_ p8_
  go_wp2_with (first | (go_at_call 16; refine (no_any _ _).mono ?_; rintro e w9 ⟨rfl, hw9⟩; have hw9 := hw9.symm; subst hw9) | fail)
  clear e0 e1 e2 e3 f0 f1 f2 f3
  refine (HT1.out u1 HU1.out).mono ?_
  rintro e u2 ⟨rfl, hu⟩
  have HU2 := hide (below_on HU1.out hu)
  clear hu HT1 HU1
  obtain ⟨p1_, p2_, p3_, p4_, p5_, p6_, p7_, p8_⟩ := HBC.out u2 HU2.out
  have e0 := cell_of p5_ (i := 0) rfl; have e1 := cell_of p5_ (i := 1) rfl; have e2 := cell_of p5_ (i := 2) rfl; have e3 := cell_of p5_ (i := 3) rfl
  have f0 := cell_of p6_ (i := 0) rfl; have f1 := cell_of p6_ (i := 1) rfl; have f2 := cell_of p6_ (i := 2) rfl; have f3 := cell_of p6_ (i := 3) rfl
  clear p1_ p2_ p3_ p4_ p5_ p6_ p7_ p8_
  go_wp2_with (first | (go_at_call 16; refine (no_any _ _).mono ?_; rintro e w9 ⟨rfl, hw9⟩; have hw9 := hw9.symm; subst hw9) | fail)
  clear e0 e1 e2 e3 f0 f1 f2 f3
  refine (HT2.out u2 HU2.out).mono ?_
  rintro e u3 ⟨rfl, hu⟩
  have HU3 := hide (below_on HU2.out hu)
  clear hu HT2 HU2
  obtain ⟨p1_, p2_, p3_, p4_, p5_, p6_, p7_, p8_⟩ := HBC.out u3 HU3.out
  have e0 := cell_of p7_ (i := 0) rfl; have e1 := cell_of p7_ (i := 1) rfl; have e2 := cell_of p7_ (i := 2) rfl; have e3 := cell_of p7_ (i := 3) rfl
  have f0 := cell_of p8_ (i := 0) rfl; have f1 := cell_of p8_ (i := 1) rfl; have f2 := cell_of p8_ (i := 2) rfl; have f3 := cell_of p8_ (i := 3) rfl
  clear p1_ p2_ p3_ p4_ p5_ p6_ p7_ p8_
  go_wp2_with (first | (go_at_call 16; refine (no_any _ _).mono ?_; rintro e w9 ⟨rfl, hw9⟩; have hw9 := hw9.symm; subst hw9) | fail)
  clear e0 e1 e2 e3 f0 f1 f2 f3
  refine (HT3.out u3 HU3.out).mono ?_
  rintro e u4 ⟨rfl, hu⟩
  have HU4 := hide (below_on HU3.out hu)
  clear hu HT3 HU3
  go_upto_region 11 with (first | (go_at_call 16; refine (no_any _ _).mono ?_; rintro e w9 ⟨rfl, hw9⟩; have hw9 := hw9.symm; subst hw9) | fail)
  have hbU : Below w.heap.size w u4 := below_on HX9.out.1 HU4.out
  have HBU := hide hbU
  obtain ⟨v1, v2, v3, hB, ho1, ho2, ho3⟩ := (HK.out.below hbU).ex
  have hle := HK.out.le
  have hBlt := HK.out.lt
  have hBu : B < u4.heap.size := lt_of_heap hB
  obtain ⟨p1_, p2_, p3_, p4_, p5_, p6_, p7_, p8_⟩ := HBC.out u4 HU4.out
  have HP3 := hide p3_; have HP5 := hide p5_; have HP7 := hide p7_
  have HAF : Hid (AfE base B u4 v1 v2 v3 L1 L2 L3 u4) := ⟨hB, ho1, ho2, ho3, HdE.refl _ _ _⟩
  have HOT := hide (HTD.out.stay (fun b cur t h _ _ _ _ => HU4.out.block b (lt_of_heap h)))
  have HO3_ := hide ho3
  have b2 := cell_of hB (i := 2) rfl
  have f2 := free_of hB 2
  have x1_ := cell_of p1_ (i := 1) rfl
  have HNW := hide (World.news_of_block (heap_new u4 (.cells #[.slice xo l.length xc] 45)))
  have hne : ¬ B1 = B := ne_typeE p1_ hB (by decide)
  have hne2 : ¬ u4.heap.size = B := by omega
  have hWw := HX9.out.2
  clear hB ho1 ho2 ho3 hbU p1_ p2_ p3_ p4_ p5_ p6_ p7_ p8_ HBC HTD HU4 HX9
  go_cut [] from 118 to 128 (fun wx => ∃ n3, AfE base B u4 v1 v2 n3 L1 L2 (L3 ++ [.slice xo l.length xc]) wx)
  case first =>
    refine wp_region_noPanic ?_
    go_region_law ((refine step_append_lies _ (by rfl) _ _ _ (by rfl) base 45 i0 (.slice none 0 0) 1 24 Try.underlying54 ti tz0 tz1 tz2 rfl (by omega) v3 L3.length L3 (by rfl) (by exact HO3_.out.alloc _) ⟨u4.heap.size, 0, none⟩ 1 1 [.slice xo l.length xc] (by rfl) (by rfl) (by exact HNW.out) (by simp [Value.oneCell']) (by omega) (by unfold maxLen; omega) (by omega) (by simp; omega) (u4.heap.size + 1) (by simp) ?_; intro g cap w2_ hown hgrow hat hlt; have zB := grow_keep hgrow (HAF.out.alloc hle (.cells #[.slice xo l.length xc] 45)).o3 (HAF.out.alloc hle (.cells #[.slice xo l.length xc] 45)).book (by decide); have z0 := free_of zB 2; have z1 := cell_of zB (i := 2) rfl))
    all_goals
      refine NoPanic.normal ?_
      go_wp2_with fail
      go_meet
      case rel => exact ⟨_, (HAF.out.alloc hle _).drew.three hle hgrow (by simpa using hown)⟩
  case rest =>
    obtain ⟨n3, haf⟩ := hcut
    have HBK0 := hide (haf.bk hle)
    have HH0 := hide haf.hd
    clear haf HAF HNW b2 f2 x1_ HO3_ hne2
    have hq := (HH0.out.keep _ _ _ HP3.out (by decide) (by decide) (by decide) (by decide)).trans HP3.out
    have e0 := cell_of hq (i := 0) rfl; have e1 := cell_of hq (i := 1) rfl; have e2 := cell_of hq (i := 2) rfl; have e3 := cell_of hq (i := 3) rfl
    have HCG := hide (bookGraphE_any base B M1 ao1 bo1 co1 p1.length ca1 q1.length cb1 r1.length cc1 _ _ _ wc HBK0.out (by first | omega | (simp; omega)) (by first | omega | (simp; omega)))
    unfold gAgg at HCG
    clear hq
    go_wp2_with fail
    refine HCG.out.mono ?_
    rintro e y1 ⟨rfl, hbk, hhd⟩
    have HBK1 := hide hbk; have HH1 := hide (HH0.out.trans hhd)
    clear hbk hhd HCG e0 e1 e2 e3
    have hq := (HH1.out.keep _ _ _ HP5.out (by decide) (by decide) (by decide) (by decide)).trans HP5.out
    have e0 := cell_of hq (i := 0) rfl; have e1 := cell_of hq (i := 1) rfl; have e2 := cell_of hq (i := 2) rfl; have e3 := cell_of hq (i := 3) rfl
    have HCG := hide (bookGraphE_any base B M2 ao2 bo2 co2 p2.length ca2 q2.length cb2 r2.length cc2 _ _ _ y1 HBK1.out (by first | omega | (simp; omega)) (by first | omega | (simp; omega)))
    unfold gAgg at HCG
    clear hq
    go_wp2_with fail
    refine HCG.out.mono ?_
    rintro e y2 ⟨rfl, hbk, hhd⟩
    have HBK2 := hide hbk; have HH2 := hide (HH1.out.trans hhd)
    clear hbk hhd HCG e0 e1 e2 e3
    have hq := (HH2.out.keep _ _ _ HP7.out (by decide) (by decide) (by decide) (by decide)).trans HP7.out
    have e0 := cell_of hq (i := 0) rfl; have e1 := cell_of hq (i := 1) rfl; have e2 := cell_of hq (i := 2) rfl; have e3 := cell_of hq (i := 3) rfl
    have HCG := hide (bookGraphE_any base B M3 ao3 bo3 co3 p3.length ca3 q3.length cb3 r3.length cc3 _ _ _ y2 HBK2.out (by first | omega | (simp; omega)) (by first | omega | (simp; omega)))
    unfold gAgg at HCG
    clear hq
    go_wp2_with fail
    refine HCG.out.mono ?_
    rintro e y3 ⟨rfl, hbk, hhd⟩
    have HBK3 := hide hbk; have HH3 := hide (HH2.out.trans hhd)
    clear hbk hhd HCG e0 e1 e2 e3
    go_wp2_with fail
    go_ret
    exact ⟨rfl, (HdE.of_below (by omega) HBU.out).trans HH3.out, _, _, _, _, _, _, _, _, _, _, l, p1, q1, r1, p2, q2, r2, p3, q3, r3, HBK3.out, (HOT.out.stay HH3.out.keep).low hWw⟩
end Go.Proofs.Ytmagigmcbegmiaa
