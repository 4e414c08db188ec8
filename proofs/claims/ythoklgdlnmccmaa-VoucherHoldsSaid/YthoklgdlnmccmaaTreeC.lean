import Derived.Test.YthoklgdlnmccmaaTreeB
import Derived.Test.YthoklgdlnmccmaaTreeA
import Derived.Deep.CutRange
import Derived.Test.YthoklgdlnmccmaaSearches
/- route.Tree. -/
namespace Go.Proofs.Ythoklgdlnmccmaa
open Go.RowKit Go.Lib
set_option linter.unusedVariables false

theorem sz_drew (X : World) : X.drew.heap.size = X.heap.size := rfl
theorem cd_drew (X : World) (a : Addr) : X.drew.cell? a = X.cell? a := rfl
theorem cb0 (X : World) (x : Value) (t : TypeId) : (X.alloc (.cells #[x] t)).cell? ⟨X.heap.size, 0, none⟩ = some x := cell_of (heap_new X _) rfl
theorem cb1 (X : World) (x : Value) (t : TypeId) (o : Obj) : ((X.alloc (.cells #[x] t)).alloc o).cell? ⟨X.heap.size, 0, none⟩ = some x := (below_cell (below_alloc (Below.refl _ _) _) (by simp)).trans (cb0 X x t)
theorem cb2 (X : World) (x : Value) (t : TypeId) (o : Obj) : ((X.alloc o).alloc (.cells #[x] t)).cell? ⟨X.heap.size + 1, 0, none⟩ = some x := by
  have := cb0 (X.alloc o) x t
  rwa [show (X.alloc o).heap.size = X.heap.size + 1 by simp] at this
theorem cb3 (X : World) (x : Value) (t : TypeId) (o p : Obj) : (((X.alloc (.cells #[x] t)).alloc o).alloc p).cell? ⟨X.heap.size, 0, none⟩ = some x := (below_cell (below_alloc (Below.refl _ _) _) (by simp; omega)).trans (cb1 X x t o)
theorem cb4 (X : World) (x : Value) (t : TypeId) (o p : Obj) : (((X.alloc o).alloc (.cells #[x] t)).alloc p).cell? ⟨X.heap.size + 1, 0, none⟩ = some x := (below_cell (below_alloc (Below.refl _ _) _) (by simp)).trans (cb2 X x t o)
theorem cb5 (X : World) (x : Value) (t : TypeId) (o p : Obj) : (((X.alloc o).alloc p).alloc (.cells #[x] t)).cell? ⟨X.heap.size + 2, 0, none⟩ = some x := by
  have := cb0 ((X.alloc o).alloc p) x t
  rwa [show ((X.alloc o).alloc p).heap.size = X.heap.size + 2 by simp] at this
/-- A tree's struct as it is made. -/
abbrev Z126 : Obj := .cells #[.int .i64 0, .slice none 0 0, .slice none 0 0, .slice none 0 0, .int .i64 0, .slice none 0 0, .slice none 0 0, .slice none 0 0] 148
theorem z126 (X : World) : (X.alloc Z126).heap[X.heap.size]? = some (.cells #[.int .i64 0, .slice none 0 0, .slice none 0 0, .slice none 0 0, .int .i64 0, .slice none 0 0, .slice none 0 0, .slice none 0 0] 148 (0, 0)) := heap_new X _
theorem zl1 (Y : World) (o : Obj) : ((Y.alloc Z126).alloc o).heap[Y.heap.size]? = some (.cells #[.int .i64 0, .slice none 0 0, .slice none 0 0, .slice none 0 0, .int .i64 0, .slice none 0 0, .slice none 0 0, .slice none 0 0] 148 (0, 0)) := (Below.heap_alloc _ _ _ (by simp)).trans (z126 Y)
theorem zl2 (Y : World) (o : Obj) : ((Y.alloc o).alloc Z126).heap[Y.heap.size + 1]? = some (.cells #[.int .i64 0, .slice none 0 0, .slice none 0 0, .slice none 0 0, .int .i64 0, .slice none 0 0, .slice none 0 0, .slice none 0 0] 148 (0, 0)) := by
  have := z126 (Y.alloc o)
  rwa [show (Y.alloc o).heap.size = Y.heap.size + 1 by simp] at this
theorem zl3 (Y : World) (o p : Obj) : (((Y.alloc Z126).alloc o).alloc p).heap[Y.heap.size]? = some (.cells #[.int .i64 0, .slice none 0 0, .slice none 0 0, .slice none 0 0, .int .i64 0, .slice none 0 0, .slice none 0 0, .slice none 0 0] 148 (0, 0)) := (Below.heap_alloc _ _ _ (by simp; omega)).trans (zl1 Y o)
theorem zl4 (Y : World) (o p : Obj) : (((Y.alloc o).alloc Z126).alloc p).heap[Y.heap.size + 1]? = some (.cells #[.int .i64 0, .slice none 0 0, .slice none 0 0, .slice none 0 0, .int .i64 0, .slice none 0 0, .slice none 0 0, .slice none 0 0] 148 (0, 0)) := (Below.heap_alloc _ _ _ (by simp)).trans (zl2 Y o)
theorem zl5 (Y : World) (o p : Obj) : (((Y.alloc o).alloc p).alloc Z126).heap[Y.heap.size + 2]? = some (.cells #[.int .i64 0, .slice none 0 0, .slice none 0 0, .slice none 0 0, .int .i64 0, .slice none 0 0, .slice none 0 0, .slice none 0 0] 148 (0, 0)) := by
  have := z126 ((Y.alloc o).alloc p)
  rwa [show ((Y.alloc o).alloc p).heap.size = Y.heap.size + 2 by simp] at this
theorem zk {X Y : World} {T : Nat} {O : Obj} (hb : Below X.heap.size X Y) (h : X.heap[T]? = some O) : Y.heap[T]? = some O := (hb.block T (lt_of_heap h)).trans h
theorem zkd {X Y : World} {T : Nat} {O : Obj} (hb : Below X.drew.heap.size X.drew Y) (h : X.heap[T]? = some O) : Y.heap[T]? = some O := (hb.block T (lt_of_heap h)).trans h
theorem za {X : World} {T : Nat} {O : Obj} (o : Obj) (h : X.heap[T]? = some O) : (X.alloc o).heap[T]? = some O := (Below.heap_alloc _ _ _ (by have := lt_of_heap h; omega)).trans h
theorem ck {X Y : World} {b o : Nat} {v : Value} (hb : Below X.heap.size X Y) (h : X.cell? ⟨b, o, none⟩ = some v) : Y.cell? ⟨b, o, none⟩ = some v := (below_cell hb (block_of_cell h)).trans h
theorem ckd {X Y : World} {b o : Nat} {v : Value} (hb : Below X.drew.heap.size X.drew Y) (h : X.cell? ⟨b, o, none⟩ = some v) : Y.cell? ⟨b, o, none⟩ = some v := ck hb ((cd_drew X _).trans h)
theorem cAl {X : World} {b i : Nat} {v : Value} (o : Obj) (h : X.cell? ⟨b, i, none⟩ = some v) : (X.alloc o).cell? ⟨b, i, none⟩ = some v := ck (below_alloc (Below.refl _ _) _) h
theorem arm_one {w4 X wA : World} {l : List Int} (h1 : Below w4.heap.size w4 X) (hA : Arr wA X.heap.size l) (hb : Below X.heap.size X wA) : Below w4.heap.size w4 wA ∧ w4.heap.size ≤ X.heap.size ∧ X.heap.size < wA.heap.size := ⟨below_on h1 hb, h1.size, lt_of_heap hA⟩
theorem arm_two {w4 wA X wB : World} {gA : Nat} {l : List Int} (h1 : Below w4.heap.size w4 X) (h2 : Below wA.heap.size wA X) (hA : Arr wA gA l) (hb : Below X.heap.size X wB) : Below w4.heap.size w4 wB ∧ Arr wB gA l ∧ w4.heap.size ≤ X.heap.size ∧ X.heap.size ≠ gA := ⟨below_on h1 hb, hA.below (below_on h2 hb) (lt_of_heap hA), h1.size, by have := h2.size; have := lt_of_heap hA; omega⟩
theorem tge {wZ : World} {T m : Nat} (hz : wZ.heap[T]? = some (.cells #[.int .i64 0, .slice none 0 0, .slice none 0 0, .slice none 0 0, .int .i64 0, .slice none 0 0, .slice none 0 0, .slice none 0 0] 148 (0, 0))) (h : m ≤ T) : m ≤ T := h
theorem LRow.few {w : World} {B : Nat} {v : Value} {l : List Int} (h : LRow w B v l) : l.length ≤ 9223372036854775807 := by
  obtain ⟨hl, ⟨rfl, h0⟩ | ⟨g, cap, cur, rfl, hg, hh, hnc, hcm, _⟩⟩ := h
  · omega
  · exact Nat.le_trans hnc hcm
/-- A tree on its way: the depth d is set. -/
structure TG (n : Nat) (st tl wt : List Int) (k : Int) (S : List Pr) (L : List Int) (w4 wr : World) (T : Nat) (va vb vc lv : Value) (GY GD d : Nat) (u : Value) (Ly Y D : List Int) (B0 : Nat) : Prop where
  tb : TB w4 wr T n va vb vc lv k GY GD Y D
  lr : LRow wr B0 u Ly
  td : TD n st tl wt k S L D Y d
  ly : Lay n st tl wt k S L d Ly
  bT : T < B0
  bY : GY < B0
  bD : GD < B0
theorem keep3 {w4 : World} {X c : Nat} {q : Value} (hX : X < w4.heap.size) (h : w4.cell? ⟨X, c, none⟩ = some q) (o1 o2 o3 : Obj) : (((w4.alloc o1).alloc o2).alloc o3).drew.cell? ⟨X, c, none⟩ = some q :=
  (below_cell (below_drew (below_alloc (below_alloc (below_alloc (Below.refl _ _) _) _) _)) hX).trans h
theorem keep8 {w4 wZ : World} {T X c : Nat} {q : Value} (hbZ : Below w4.heap.size w4 wZ) (hT : w4.heap.size ≤ T) (hX : X < w4.heap.size) (h : w4.cell? ⟨X, c, none⟩ = some q) (v0 v1 v2 v3 v4 v5 v6 v7 : Value) : ((((((((wZ.setCell ⟨T, 0, none⟩ v0).setCell ⟨T, 1, none⟩ v1).setCell ⟨T, 2, none⟩ v2).setCell ⟨T, 3, none⟩ v3).setCell ⟨T, 4, none⟩ v4).setCell ⟨T, 5, none⟩ v5).setCell ⟨T, 6, none⟩ v6).setCell ⟨T, 7, none⟩ v7).cell? ⟨X, c, none⟩ = some q :=
  (below_cell ((((((((hbZ.setCell (p := ⟨T, 0, none⟩) hT _).setCell (p := ⟨T, 1, none⟩) hT _).setCell (p := ⟨T, 2, none⟩) hT _).setCell (p := ⟨T, 3, none⟩) hT _).setCell (p := ⟨T, 4, none⟩) hT _).setCell (p := ⟨T, 5, none⟩) hT _).setCell (p := ⟨T, 6, none⟩) hT _).setCell (p := ⟨T, 7, none⟩) hT _) hX).trans h
theorem tree_end8 {w4 wZ : World} {T gA gB n : Nat} {va vb vc lv : Value} {k : Int} {l : List Int} (hz : wZ.heap[T]? = some (.cells #[.int .i64 0, .slice none 0 0, .slice none 0 0, .slice none 0 0, .int .i64 0, .slice none 0 0, .slice none 0 0, .slice none 0 0] 148 (0, 0))) (hT : w4.heap.size ≤ T) (hbZ : Below w4.heap.size w4 wZ) (hA : Arr wZ gA l) (hB : Arr wZ gB l) (hgA : w4.heap.size ≤ gA) (hgB : w4.heap.size ≤ gB) (hAB : gB ≠ gA) :
    TB w4 ((((((((wZ.setCell ⟨T, 0, none⟩ (.int .i64 n)).setCell ⟨T, 1, none⟩ va).setCell ⟨T, 2, none⟩ vb).setCell ⟨T, 3, none⟩ vc).setCell ⟨T, 4, none⟩ (.int .i64 k)).setCell ⟨T, 5, none⟩ lv).setCell ⟨T, 6, none⟩ (.slice (some ⟨gA, 0, none⟩) n n)).setCell ⟨T, 7, none⟩ (.slice (some ⟨gB, 0, none⟩) n n)) T n va vb vc lv k gA gB l l := by
  have hTA : T ≠ gA := fun e => by subst e; unfold Arr at hA; rw [hz] at hA; simp at hA
  have hTB : T ≠ gB := fun e => by subst e; unfold Arr at hB; rw [hz] at hB; simp at hB
  have hh := (heap_set (i := 7) (heap_set (i := 6) (heap_set (i := 5) (heap_set (i := 4) (heap_set (i := 3) (heap_set (i := 2) (heap_set (i := 1) (heap_set (i := 0) hz (.int .i64 n)) va) vb) vc) (.int .i64 k)) lv) (.slice (some ⟨gA, 0, none⟩) n n)) (.slice (some ⟨gB, 0, none⟩) n n))
  refine ⟨?_, ?_, ?_, ((((((((hbZ.setCell (p := ⟨T, 0, none⟩) hT _).setCell (p := ⟨T, 1, none⟩) hT _).setCell (p := ⟨T, 2, none⟩) hT _).setCell (p := ⟨T, 3, none⟩) hT _).setCell (p := ⟨T, 4, none⟩) hT _).setCell (p := ⟨T, 5, none⟩) hT _).setCell (p := ⟨T, 6, none⟩) hT _).setCell (p := ⟨T, 7, none⟩) hT _), hgA, hgB, hAB, hTA, hTB⟩
  · rw [hh]; simp
  · unfold Arr
    rw [Below.heap_setCell _ _ _ _ (show gA ≠ T from fun e => hTA e.symm), Below.heap_setCell _ _ _ _ (show gA ≠ T from fun e => hTA e.symm), Below.heap_setCell _ _ _ _ (show gA ≠ T from fun e => hTA e.symm), Below.heap_setCell _ _ _ _ (show gA ≠ T from fun e => hTA e.symm), Below.heap_setCell _ _ _ _ (show gA ≠ T from fun e => hTA e.symm), Below.heap_setCell _ _ _ _ (show gA ≠ T from fun e => hTA e.symm), Below.heap_setCell _ _ _ _ (show gA ≠ T from fun e => hTA e.symm), Below.heap_setCell _ _ _ _ (show gA ≠ T from fun e => hTA e.symm)]
    exact hA
  · unfold Arr
    rw [Below.heap_setCell _ _ _ _ (show gB ≠ T from fun e => hTB e.symm), Below.heap_setCell _ _ _ _ (show gB ≠ T from fun e => hTB e.symm), Below.heap_setCell _ _ _ _ (show gB ≠ T from fun e => hTB e.symm), Below.heap_setCell _ _ _ _ (show gB ≠ T from fun e => hTB e.symm), Below.heap_setCell _ _ _ _ (show gB ≠ T from fun e => hTB e.symm), Below.heap_setCell _ _ _ _ (show gB ≠ T from fun e => hTB e.symm), Below.heap_setCell _ _ _ _ (show gB ≠ T from fun e => hTB e.symm), Below.heap_setCell _ _ _ _ (show gB ≠ T from fun e => hTB e.symm)]
    exact hB
theorem tree_endA {w4 wZ : World} {gA gB n : Nat} {va vb vc lv : Value} {k : Int} {l : List Int} (hbZ : Below w4.heap.size w4 wZ) (hA : Arr wZ gA l) (hB : Arr wZ gB l) (hgA : w4.heap.size ≤ gA) (hgB : w4.heap.size ≤ gB) (hAB : gB ≠ gA) :
    TB w4 (wZ.alloc (.cells #[.int .i64 n, va, vb, vc, .int .i64 k, lv, .slice (some ⟨gA, 0, none⟩) n n, .slice (some ⟨gB, 0, none⟩) n n] 148)) wZ.heap.size n va vb vc lv k gA gB l l := by
  have hlA := lt_of_heap hA
  have hlB := lt_of_heap hB
  have hb : Below wZ.heap.size wZ (wZ.alloc (.cells #[.int .i64 n, va, vb, vc, .int .i64 k, lv, .slice (some ⟨gA, 0, none⟩) n n, .slice (some ⟨gB, 0, none⟩) n n] 148)) := below_alloc (Below.refl _ _) _
  exact ⟨heap_new _ _, hA.below hb hlA, hB.below hb hlB, below_on hbZ hb, hgA, hgB, hAB, by omega, by omega⟩
set_option maxRecDepth 100000 in
set_option maxHeartbeats 8000000 in
theorem tree_good (n : Nat) (va vb vc : Value) (st tl wt : List Int) (k : Int) (sv : Value) (S : List Pr) (lv : Value) (L : List Int) (w : World) (hg : GIs w n va vb vc st tl wt) (h0 : srchNo n st tl wt k S = 0) (hwb : ∀ e, 0 ≤ at_ wt e ∧ at_ wt e ≤ 18446744073709551615) (hs : SAt w sv S) (hw : ∀ j, j < S.length → 0 ≤ (sAt S j).2 ∧ (sAt S j).2 ≤ 18446744073709551615) (hS : S.length * 16 ≤ 140737488353280) (hl : RowAt .u64 w lv L) (hF : Found n st tl wt k S L) :
    Calls Try.prog 45 #[gAgg n va vb vc, .int .i64 k, sv, lv] w (TreeW w n st tl wt k S L) := by
  obtain ⟨m0, hmn, hgd, hsn⟩ := srch_good h0
  obtain rfl : n = m0 := by omega
  have hok := sok_of hsn (fun j hj => (hw j hj).1)
  obtain ⟨i0, hi, hz0, hz1, hz2⟩ := info_parts Try.info3
  have hst : st.length ≤ 17592186044416 := by have := hgd.s_len; have := hgd.n_le; omega
  have htl : tl.length ≤ 17592186044416 := by have := hgd.m_le; omega
  have hwt : wt.length ≤ 17592186044416 := by have := hgd.w_len; omega
  obtain ⟨ao, ca, rfl⟩ := hg.s.shape
  obtain ⟨bo, cb, rfl⟩ := hg.t.shape
  obtain ⟨co, cc, rfl⟩ := hg.u.shape
  obtain ⟨so, sc, rfl, hsc, hscm⟩ := hs.shape
  obtain ⟨lo, lc, rfl⟩ := hl.shape
  obtain ⟨c0, c1, c2, c3, hb1, hs1⟩ := boxed w (.int .i64 n) (.slice ao st.length ca) (.slice bo tl.length cb) (.slice co wt.length cc)
  have HF := hide (termsS_any n _ _ _ st tl wt k _ S _ (hg.below hb1) hst htl hwt (hs.below hb1))
  have HB1 := hide hb1
  have HG1 := hide (hg.below hb1)
  have HS1 := hide (hs.below hb1)
  have HL1 := hide (hl.below hb1)
  have hn := hgd.n_le
  have hLl := hF.len
  have HLE := hide (fun W a b => search_any2 n (.slice ao st.length ca) (.slice bo tl.length cb) (.slice co wt.length cc) st tl wt k (.slice so S.length sc) S W a hgd hwb b hok hS)
  have HON := hide (fun M (h : Found n st tl wt k S M) => h.only hF hwb hw)
  have HD := hide hgd; have HWB := hide hwb; have HFD := hide hF; have HOK := hide hok
  rw [h0] at HF
  unfold gAgg at HF HLE ⊢
  rw [hLl] at HL1 ⊢
  clear hb1 hg hs h0 hgd hsn hw hwb hl hF hok hmn hst htl hwt
  have hnn : ((n : Int) != (n : Int)) = false := by simp
  go_enter Try.func45, Try.ntmps45
  go_wp2_with fail
  generalize (w.alloc (.cells #[.int .i64 n, .slice ao st.length ca, .slice bo tl.length cb, .slice co wt.length cc] 32)) = w1 at c0 c1 c2 c3 hs1 HB1 HS1 HG1 HL1 HF ⊢
  refine HF.out.mono ?_
  rintro e w2 ⟨rfl, hb2⟩
  have HX2 := hide (box_keep hs1 hb2 ⟨c0, c1, c2, c3⟩)
  clear c0 c1 c2 c3
  obtain ⟨x0, x1, x2, x3⟩ := HX2.out
  have hs2 : w.heap.size < w2.heap.size := by have := hb2.size; omega
  have HB2 := hide (below_on HB1.out hb2)
  have HS2 := hide (HS1.out.below hb2)
  have HG2 := hide (HG1.out.below hb2)
  have HL2 := hide (HL1.out.below hb2)
  clear hb2 HF HS1 HB1 HG1 HL1
  go_wp2_with fail
  refine (HLE.out w2 HG2.out HS2.out).mono ?_
  rintro e w3 ⟨G, M, rfl, hG, hA, hFo, hb3⟩
  obtain rfl := HON.out M hFo
  have HX3 := hide (box_keep hs2 hb3 HX2.out)
  have hs3 : w.heap.size < w3.heap.size := by have := hb3.size; omega
  have HB3 := hide (below_on HB2.out hb3)
  have HS3 := hide (HS2.out.below hb3)
  have HG3 := hide (HG2.out.below hb3)
  have HL3 := hide (HL2.out.below hb3)
  have HSM := hide (equalU_any _ _ M M n w3 HL3.out (hA.row hLl (by omega)) hLl hLl hn)
  rw [decide_eq_true rfl] at HSM
  clear hb3 hA hFo hG HS2 HB2 HG2 HL2 HX2 HLE HON x0 x1 x2 x3
  go_wp2_with fail
  refine HSM.out.mono ?_
  rintro e w4 ⟨rfl, hb4⟩
  have HX4 := hide (box_keep hs3 hb4 HX3.out)
  obtain ⟨x0, x1, x2, x3⟩ := HX4.out
  have hs4 : w.heap.size < w4.heap.size := by have := hb4.size; omega
  have HB4 := hide (below_on HB3.out hb4)
  have HS4 := hide (HS3.out.below hb4)
  have HG4 := hide (HG3.out.below hb4)
  have HL4 := hide (HL3.out.below hb4)
  clear hb4 HSM HS3 HB3 HG3 HL3 HX3
  go_wp2_with fail
  have HR4 := hide (below_drew (Below.refl w4.heap.size w4))
  have k30 := keep3 hs4 HX4.out.1
  have k31 := keep3 hs4 HX4.out.2.1
  have k32 := keep3 hs4 HX4.out.2.2.1
  have k33 := keep3 hs4 HX4.out.2.2.2
  go_cut [12] from 34 to 45 (fun s wx => ∃ (T GY GD : Nat), s = .pointer (some ⟨T, 0, none⟩) ∧ TB w4 wx T n (.slice ao st.length ca) (.slice bo tl.length cb) (.slice co wt.length cc) (.slice lo n lc) k GY GD (tab n (fun _ => -1)) (tab n (fun _ => -1)))
  case first =>
    refine wp_region_noPanic ?_
    go_region_held3 (fun x => x.cell? ⟨w.heap.size, 0, none⟩ = some (.int .i64 n) ∧ x.cell? ⟨w.heap.size, 1, none⟩ = some (.slice ao st.length ca) ∧ x.cell? ⟨w.heap.size, 2, none⟩ = some (.slice bo tl.length cb) ∧ x.cell? ⟨w.heap.size, 3, none⟩ = some (.slice co wt.length cc)) (first | (with_reducible exact ⟨z0, z1, z2, z3⟩) | (with_reducible exact ⟨k30 _ _ _, k31 _ _ _, k32 _ _ _, k33 _ _ _⟩) | (with_reducible exact ⟨k80 _ _ _ _ _ _ _ _, k81 _ _ _ _ _ _ _ _, k82 _ _ _ _ _ _ _ _, k83 _ _ _ _ _ _ _ _⟩) | go_keep | exact ⟨z0, z1, z2, z3⟩)
      (first
        | (go_at_call 99; have hq0 := HBA.out; clear hq0; refine (repeat_any n _ hn _ (by first | (with_reducible exact cb0 _ _ _) | (with_reducible exact cb1 _ _ _ _) | (with_reducible exact cb2 _ _ _ _) | (with_reducible exact cb3 _ _ _ _ _) | (with_reducible exact cb4 _ _ _ _ _) | (with_reducible exact cb5 _ _ _ _ _) | (with_reducible exact HK0.out) | (with_reducible exact HK1.out) | (with_reducible exact HK2.out) | (with_reducible exact cAl _ HK0.out) | (with_reducible exact cAl _ HK1.out) | (with_reducible exact cAl _ HK2.out))).mono ?_; rintro e wB ⟨rfl, hArB, hbB⟩; obtain ⟨hB4B, hAatB, hgB1, hgB2⟩ := arm_two (w4 := w4) (by first | (with_reducible exact HBA.out) | (with_reducible exact below_alloc HBA.out _) | (with_reducible exact below_alloc (below_alloc HBA.out _) _)) (by first | (with_reducible exact Below.refl _ _) | (with_reducible exact below_alloc (Below.refl _ _) _) | (with_reducible exact below_alloc (below_alloc (Below.refl _ _) _) _)) HAA.out hbB; obtain ⟨z0, z1, z2, z3⟩ := box_keep hs4 hB4B HX4.out; (first | ((first | (with_reducible (have hZ2 := zk hbB HZ1.out); clear HZ1; have HZ1 := hide hZ2; clear hZ2) | (with_reducible (have hZ2 := zk hbB (za _ HZ1.out)); clear HZ1; have HZ1 := hide hZ2; clear hZ2) | (with_reducible (have hZ1 := zk hbB (zl1 _ _)); have HZ1 := hide hZ1; clear hZ1) | (with_reducible (have hZ1 := zk hbB (zl2 _ _)); have HZ1 := hide hZ1; clear hZ1) | (with_reducible (have hZ1 := zk hbB (z126 _)); have HZ1 := hide hZ1; clear hZ1)); have hTG := tge (m := w4.heap.size) HZ1.out (by first | (with_reducible exact Nat.le_refl _) | (with_reducible exact Nat.le_add_right _ _) | (with_reducible exact hsA) | (with_reducible exact Nat.le_trans hsA (Nat.le_add_right _ _))); have HTG := hide hTG; clear hTG; have e0 := cell_of HZ1.out (i := 0) rfl; have q0 := free_of HZ1.out 0; have e1 := cell_of HZ1.out (i := 1) rfl; have q1 := free_of HZ1.out 1; have e2 := cell_of HZ1.out (i := 2) rfl; have q2 := free_of HZ1.out 2; have e3 := cell_of HZ1.out (i := 3) rfl; have q3 := free_of HZ1.out 3; have e4 := cell_of HZ1.out (i := 4) rfl; have q4 := free_of HZ1.out 4; have e5 := cell_of HZ1.out (i := 5) rfl; have q5 := free_of HZ1.out 5; have e6 := cell_of HZ1.out (i := 6) rfl; have q6 := free_of HZ1.out 6; have e7 := cell_of HZ1.out (i := 7) rfl; have q7 := free_of HZ1.out 7; have k80 := keep8 hB4B HTG.out hs4 HX4.out.1; have k81 := keep8 hB4B HTG.out hs4 HX4.out.2.1; have k82 := keep8 hB4B HTG.out hs4 HX4.out.2.2.1; have k83 := keep8 hB4B HTG.out hs4 HX4.out.2.2.2) | skip); (try simp only [World.size_alloc] at hArB); (try simp only [World.size_alloc] at hgB1); (try simp only [World.size_alloc] at hgB2); have hsB := hB4B.size; have HAatB := hide hAatB; have HBB := hide hB4B; have HAB := hide hArB; have HGB := hide hgB1; have HGN := hide hgB2; clear hArB hbB hB4B hAatB hgB1 hgB2)
        | (go_at_call 99; refine (repeat_any n _ hn _ (by rw [cd_drew]; first | (with_reducible exact cb0 _ _ _) | (with_reducible exact cb1 _ _ _ _) | (with_reducible exact cb2 _ _ _ _) | (with_reducible exact cb3 _ _ _ _ _) | (with_reducible exact cb4 _ _ _ _ _) | (with_reducible exact cb5 _ _ _ _ _))).mono ?_; rintro e wA ⟨rfl, hArA, hbA⟩; obtain ⟨hB4A, hgA1, hgA2⟩ := arm_one (w4 := w4) (by first | (with_reducible exact below_drew (below_alloc (Below.refl _ _) _)) | (with_reducible exact below_drew (below_alloc (below_alloc (Below.refl _ _) _) _)) | (with_reducible exact below_drew (below_alloc (below_alloc (below_alloc (Below.refl _ _) _) _) _))) hArA hbA; obtain ⟨z0, z1, z2, z3⟩ := box_keep hs4 hB4A HX4.out; (first | (have hk := ckd hbA (show World.cell? _ (⟨w4.heap.size, 0, none⟩ : Addr) = some (.int .i64 (-1)) from (by first | (with_reducible exact cb0 _ _ _) | (with_reducible exact cb1 _ _ _ _) | (with_reducible exact cb2 _ _ _ _) | (with_reducible exact cb3 _ _ _ _ _) | (with_reducible exact cb4 _ _ _ _ _) | (with_reducible exact cb5 _ _ _ _ _))); have HK0 := hide hk; clear hk) | skip); (first | (have hk := ckd hbA (show World.cell? _ (⟨w4.heap.size + 1, 0, none⟩ : Addr) = some (.int .i64 (-1)) from (by first | (with_reducible exact cb0 _ _ _) | (with_reducible exact cb1 _ _ _ _) | (with_reducible exact cb2 _ _ _ _) | (with_reducible exact cb3 _ _ _ _ _) | (with_reducible exact cb4 _ _ _ _ _) | (with_reducible exact cb5 _ _ _ _ _))); have HK1 := hide hk; clear hk) | skip); (first | (have hk := ckd hbA (show World.cell? _ (⟨w4.heap.size + 2, 0, none⟩ : Addr) = some (.int .i64 (-1)) from (by first | (with_reducible exact cb0 _ _ _) | (with_reducible exact cb1 _ _ _ _) | (with_reducible exact cb2 _ _ _ _) | (with_reducible exact cb3 _ _ _ _ _) | (with_reducible exact cb4 _ _ _ _ _) | (with_reducible exact cb5 _ _ _ _ _))); have HK2 := hide hk; clear hk) | skip); (first | (with_reducible (have hZ1 := zkd hbA (zl3 _ _ _)); have HZ1 := hide hZ1; clear hZ1) | (with_reducible (have hZ1 := zkd hbA (zl4 _ _ _)); have HZ1 := hide hZ1; clear hZ1) | (with_reducible (have hZ1 := zkd hbA (zl5 _ _ _)); have HZ1 := hide hZ1; clear hZ1) | (with_reducible (have hZ1 := zkd hbA (zl1 _ _)); have HZ1 := hide hZ1; clear hZ1) | (with_reducible (have hZ1 := zkd hbA (zl2 _ _)); have HZ1 := hide hZ1; clear hZ1) | (with_reducible (have hZ1 := zkd hbA (z126 _)); have HZ1 := hide hZ1; clear hZ1) | skip); (try simp only [sz_drew, World.size_alloc] at hArA hgA1); have hsA := hB4A.size; have HBA := hide hB4A; have HAA := hide hArA; have HGA := hide hgA1; clear hArA hbA hB4A hgA1 hgA2))
    all_goals
      refine NoPanic.normal ?_
      go_wp2
      go_meet
      case rel =>
        first
          | (with_reducible exact ⟨_, _, _, rfl, tree_endA HBB.out HAatB.out HAB.out HGA.out HGB.out HGN.out⟩)
          | (with_reducible exact ⟨_, _, _, rfl, tree_end8 HZ1.out HTG.out HBB.out HAatB.out HAB.out HGA.out HGB.out HGN.out⟩)
  case rest =>
    obtain ⟨T, GY, GD, rfl, hTB⟩ := hcut
    have HTB := hide hTB
    have hTl := lt_of_heap hTB.box
    have hYl := lt_of_heap hTB.ay
    have hDl := lt_of_heap hTB.ad
    have HRO := hide (roots_any n _ _ _ st tl wt k _ S _ M w4 wc T GY GD hn hTB HS4.out HOK.out hS HL4.out hLl)
    clear hTB k30 k31 k32 k33 x0 x1 x2 x3
    go_wp2_with fail
    refine HRO.out.mono ?_
    rintro e w6 ⟨ly, Ly, D, rfl, hb6, hlr6, htd6, hlay6⟩
    have HTG6 : Hid (TG n st tl wt k S M w4 w6 T (.slice ao st.length ca) (.slice bo tl.length cb) (.slice co wt.length cc) (.slice lo n lc) GY GD 0 ly Ly (tab n (fun _ => -1)) D wc.heap.size) := ⟨hb6, hlr6, htd6, hlay6, hTl, hYl, hDl⟩
    clear hb6 hlr6 htd6 hlay6 HTB HRO hTl hYl hDl
    go_wp2
    go_loopw [14, 13] (fun t u wr => ∃ (d : Nat) (Ly Y D : List Int) (B0 : Nat), t = .int .i64 ((d : Int) + 1) ∧ d ≤ n + 1 ∧ TG n st tl wt k S M w4 wr T (.slice ao st.length ca) (.slice bo tl.length cb) (.slice co wt.length cc) (.slice lo n lc) GY GD d u Ly Y D B0) (fun t _ _ => n + 3 - (RowKit.intOf t).toNat)
    case atStart => exact ⟨0, Ly, _, D, _, rfl, by omega, HTG6.out⟩
    case round =>
      clear HTG6
      obtain ⟨d, Ly, Y, D, B0, rfl, hdn, htg⟩ := hrel
      have hfew := htg.lr.few
      obtain ⟨uo, uc, rfl⟩ := htg.lr.shape
      have HTG := hide htg
      by_cases hlt : 0 < Ly.length
      · have hd := htg.ly.few HD.out hlt
        have hli : (0 : Int) < (Ly.length : Int) := by omega
        have HGR := hide (grow_any n _ _ _ st tl wt k S _ M w4 wr T GY GD B0 d _ Ly Y D HG4.out HD.out HWB.out htg.tb HL4.out HFD.out htg.td htg.ly htg.lr htg.bT htg.bY htg.bD hd hfew)
        rw [show ((d + 1 : Nat) : Int) = (d : Int) + 1 by omega] at HGR
        have hT := lt_of_heap htg.tb.box
        have hY := lt_of_heap htg.tb.ay
        have hDD := lt_of_heap htg.tb.ad
        clear htg
        go_wp2_with fail
        refine HGR.out.mono ?_
        rintro e w7 ⟨ly2, Ly2, Y2, D2, rfl, hb7, hlr7, htd7, hlay7, hsz7⟩
        have HN : Hid (TG n st tl wt k S M w4 w7 T (.slice ao st.length ca) (.slice bo tl.length cb) (.slice co wt.length cc) (.slice lo n lc) GY GD (d + 1) ly2 Ly2 Y2 D2 wr.heap.size) := ⟨hb7, hlr7, htd7, hlay7, hT, hY, hDD⟩
        clear hb7 hlr7 htd7 hlay7 hsz7 HGR hT hY hDD
        go_wp2
        exact ⟨⟨d + 1, Ly2, Y2, D2, _, by simp, by omega, HN.out⟩, by simp [RowKit.intOf]; omega⟩
      · have h0 : Ly.length = 0 := by omega
        obtain rfl : Ly = [] := List.eq_nil_of_length_eq_zero h0
        have t6 := cell_of htg.tb.box (i := 6) rfl
        have t7 := cell_of htg.tb.box (i := 7) rfl
        have HW : Hid (Whole n st tl wt k S M D Y) := ⟨d, htg.td, htg.ly.none_ HD.out⟩
        clear htg hlt h0
        go_wp2_with fail
        go_quiet (fail)
        go_wp2
        go_ret3
        have hdr : Below wr.heap.size wr (wr.drewN nq) := below_drewN (Below.refl _ _) _
        exact ⟨GY, GD, Y, D, rfl, HTG.out.tb.ay.below hdr (lt_of_heap HTG.out.tb.ay), HTG.out.tb.ad.below hdr (lt_of_heap HTG.out.tb.ad), HW.out, below_on HB4.out (below_drewN HTG.out.tb.bel _)⟩
end Go.Proofs.Ythoklgdlnmccmaa

/- route.Tree where something is wrong; both Trees: one answer. -/
namespace Go.Proofs.Ythoklgdlnmccmaa
open Go.RowKit Go.Lib
set_option linter.unusedVariables false

set_option maxRecDepth 100000 in
set_option maxHeartbeats 4000000 in
/-- Tree of labels that are not the least. -/
theorem tree_other (n : Nat) (va vb vc : Value) (st tl wt : List Int) (k : Int) (sv : Value) (S : List Pr) (lv : Value) (A L : List Int) (w : World) (hg : GIs w n va vb vc st tl wt) (h0 : srchNo n st tl wt k S = 0) (hwb : ∀ e, 0 ≤ at_ wt e ∧ at_ wt e ≤ 18446744073709551615) (hs : SAt w sv S) (hw : ∀ j, j < S.length → 0 ≤ (sAt S j).2 ∧ (sAt S j).2 ≤ 18446744073709551615) (hS : S.length * 16 ≤ 140737488353280) (hl : RowAt .u64 w lv A) (hF : Found n st tl wt k S L) (hA : A.length = n) (hAL : A ≠ L) :
    Calls Try.prog 45 #[gAgg n va vb vc, .int .i64 k, sv, lv] w fun e w' => e = .returned (.tuple #[.slice none 0 0, .slice none 0 0, .int .i64 51]) ∧ Below w.heap.size w w' := by
  obtain ⟨m0, hmn, hgd, hsn⟩ := srch_good h0
  obtain rfl : n = m0 := by omega
  have hok := sok_of hsn (fun j hj => (hw j hj).1)
  have hst : st.length ≤ 17592186044416 := by have := hgd.s_len; have := hgd.n_le; omega
  have htl : tl.length ≤ 17592186044416 := by have := hgd.m_le; omega
  have hwt : wt.length ≤ 17592186044416 := by have := hgd.w_len; omega
  obtain ⟨ao, ca, rfl⟩ := hg.s.shape
  obtain ⟨bo, cb, rfl⟩ := hg.t.shape
  obtain ⟨co, cc, rfl⟩ := hg.u.shape
  obtain ⟨so, sc, rfl, hsc, hscm⟩ := hs.shape
  obtain ⟨lo, lc, rfl⟩ := hl.shape
  obtain ⟨c0, c1, c2, c3, hb1, hs1⟩ := boxed w (.int .i64 n) (.slice ao st.length ca) (.slice bo tl.length cb) (.slice co wt.length cc)
  have HF := hide (termsS_any n _ _ _ st tl wt k _ S _ (hg.below hb1) hst htl hwt (hs.below hb1))
  have HB1 := hide hb1
  have HG1 := hide (hg.below hb1)
  have HS1 := hide (hs.below hb1)
  have HL1 := hide (hl.below hb1)
  have hn := hgd.n_le
  have HFL := hide hF.len
  have HLE := hide (fun W a b => search_any2 n (.slice ao st.length ca) (.slice bo tl.length cb) (.slice co wt.length cc) st tl wt k (.slice so S.length sc) S W a hgd hwb b hok hS)
  have HON := hide (fun M (h : Found n st tl wt k S M) => h.only hF hwb hw)
  have HNE := hide hAL
  rw [h0] at HF
  unfold gAgg at HF HLE ⊢
  rw [hA] at HL1 ⊢
  have HAL := hide hA
  clear hb1 hg hs h0 hgd hsn hw hwb hl hF hok hmn hst htl hwt hA hAL
  have hnn : ((n : Int) != (n : Int)) = false := by simp
  go_enter Try.func45, Try.ntmps45
  go_wp2_with fail
  generalize (w.alloc (.cells #[.int .i64 n, .slice ao st.length ca, .slice bo tl.length cb, .slice co wt.length cc] 32)) = w1 at c0 c1 c2 c3 hs1 HB1 HS1 HG1 HL1 HF ⊢
  refine HF.out.mono ?_
  rintro e w2 ⟨rfl, hb2⟩
  have HX2 := hide (box_keep hs1 hb2 ⟨c0, c1, c2, c3⟩)
  clear c0 c1 c2 c3
  obtain ⟨x0, x1, x2, x3⟩ := HX2.out
  have HB2 := hide (below_on HB1.out hb2)
  have HS2 := hide (HS1.out.below hb2)
  have HG2 := hide (HG1.out.below hb2)
  have HL2 := hide (HL1.out.below hb2)
  clear hb2 HF HS1 HB1 HG1 HL1
  go_wp2_with fail
  refine (HLE.out w2 HG2.out HS2.out).mono ?_
  rintro e w3 ⟨G, M, rfl, hG, hA, hFo, hb3⟩
  obtain rfl := HON.out M hFo
  have HB3 := hide (below_on HB2.out hb3)
  have HL3 := hide (HL2.out.below hb3)
  have HSM := hide (equalU_any _ _ A M n w3 HL3.out (hA.row HFL.out (by omega)) HAL.out HFL.out hn)
  rw [decide_eq_false HNE.out] at HSM
  clear hb3 hA hFo hG HS2 HB2 HG2 HL2 HX2 HLE HON x0 x1 x2 x3
  go_wp2_with fail
  refine HSM.out.mono ?_
  rintro e w4 ⟨rfl, hb4⟩
  have HB4 := hide (below_on HB3.out hb4)
  clear hb4
  go_wp2
  go_ret3
  exact ⟨rfl, HB4.out⟩
set_option maxRecDepth 100000 in
set_option maxHeartbeats 4000000 in
/-- Tree where the arguments have an error, or the labels are not as many as the vertices. -/
theorem tree_bad (N : Int) (va vb vc : Value) (st tl wt : List Int) (k : Int) (sv : Value) (S : List Pr) (lv : Value) (A : List Int) (w : World) (hg : GIs w N va vb vc st tl wt) (hst : st.length ≤ 17592186044416) (htl : tl.length ≤ 17592186044416) (hwt : wt.length ≤ 17592186044416) (hs : SAt w sv S) (hS : S.length * 16 ≤ 140737488353280) (hl : RowAt .u64 w lv A) (x : Int) (hx : (srchNo N st tl wt k S ≠ 0 ∧ x = srchNo N st tl wt k S) ∨ (srchNo N st tl wt k S = 0 ∧ (A.length : Int) ≠ N ∧ x = 34)) :
    Calls Try.prog 45 #[gAgg N va vb vc, .int .i64 k, sv, lv] w fun e w' => e = .returned (.tuple #[.slice none 0 0, .slice none 0 0, .int .i64 x]) ∧ Below w.heap.size w w' := by
  obtain ⟨ao, ca, rfl⟩ := hg.s.shape
  obtain ⟨bo, cb, rfl⟩ := hg.t.shape
  obtain ⟨co, cc, rfl⟩ := hg.u.shape
  obtain ⟨so, sc, rfl, hsc, hscm⟩ := hs.shape
  obtain ⟨lo, lc, rfl⟩ := hl.shape
  obtain ⟨c0, c1, c2, c3, hb1, hs1⟩ := boxed w (.int .i64 N) (.slice ao st.length ca) (.slice bo tl.length cb) (.slice co wt.length cc)
  have HF := hide (termsS_any N _ _ _ st tl wt k _ S _ (hg.below hb1) hst htl hwt (hs.below hb1))
  have HB1 := hide hb1
  unfold gAgg at HF ⊢
  obtain ⟨nl, hnl⟩ : ∃ nl, nl = A.length := ⟨_, rfl⟩
  rw [← hnl] at hx ⊢
  clear hb1 hg hs hl hnl
  rcases hx with ⟨h1, rfl⟩ | ⟨h1, h2, rfl⟩
  · obtain ⟨y, hy⟩ : ∃ y, y = srchNo N st tl wt k S := ⟨_, rfl⟩
    rw [← hy] at HF h1 ⊢
    have hyb : (y != 0) = true := by simp [h1]
    clear hy h1
    go_enter Try.func45, Try.ntmps45
    go_wp2_with fail
    generalize (w.alloc (.cells #[.int .i64 N, .slice ao st.length ca, .slice bo tl.length cb, .slice co wt.length cc] 32)) = w1 at c0 c1 c2 c3 hs1 HB1 HF ⊢
    refine HF.out.mono ?_
    rintro e w2 ⟨rfl, hb2⟩
    have HB2 := hide (below_on HB1.out hb2)
    clear c0 c1 c2 c3 hb2 HF
    go_wp2
    go_ret3
    exact ⟨rfl, HB2.out⟩
  · rw [h1] at HF
    have hyb : ((nl : Int) != N) = true := by simp [h2]
    clear h1 h2
    go_enter Try.func45, Try.ntmps45
    go_wp2_with fail
    generalize (w.alloc (.cells #[.int .i64 N, .slice ao st.length ca, .slice bo tl.length cb, .slice co wt.length cc] 32)) = w1 at c0 c1 c2 c3 hs1 HB1 HF ⊢
    refine HF.out.mono ?_
    rintro e w2 ⟨rfl, hb2⟩
    obtain ⟨x0, x1, x2, x3⟩ := box_keep hs1 hb2 ⟨c0, c1, c2, c3⟩
    have HB2 := hide (below_on HB1.out hb2)
    clear c0 c1 c2 c3 hb2 HF
    go_wp2
    go_ret3
    exact ⟨rfl, HB2.out⟩
/-- What a Tree answers. -/
def TAns (Y D : List Int) (x : Int) (w : World) (e : Ending) (w' : World) : Prop := ∃ o1 n1 c1 o2 n2 c2, e = .returned (.tuple #[.slice o1 n1 c1, .slice o2 n2 c2, .int .i64 x]) ∧ RowAt .i64 w' (.slice o1 n1 c1) Y ∧ RowAt .i64 w' (.slice o2 n2 c2) D ∧ Below w.heap.size w w'
structure Trees (N : Int) (st tl wt : List Int) (k : Int) (S : List Pr) (A Y D : List Int) (x : Int) : Prop where
  t : ∀ a b c sv lv W, GIs W N a b c st tl wt → SAt W sv S → RowAt .u64 W lv A → Calls Try.prog 45 #[gAgg N a b c, .int .i64 k, sv, lv] W (TAns Y D x W)
  r : ∀ a b c sv lv W, GIs W N a b c st tl wt → SAt W sv S → RowAt .u64 W lv A → Calls Try.prog 43 #[gAgg N a b c, .int .i64 k, sv, lv] W (TAns Y D x W)
theorem trees_any (N : Int) (st tl wt : List Int) (k : Int) (S : List Pr) (A : List Int) (hst : st.length ≤ 17592186044416) (hto : tl.length ≤ 17592186044416) (hwt : wt.length ≤ 17592186044416) (hwb : ∀ e, 0 ≤ at_ wt e ∧ at_ wt e ≤ 18446744073709551615) (hSb : ∀ j, j < S.length → 0 ≤ (sAt S j).2 ∧ (sAt S j).2 ≤ 18446744073709551615) (hS : S.length * 16 ≤ 140737488353280) :
    ∃ Y D x, Trees N st tl wt k S A Y D x := by
  have bad : ∀ x, ((srchNo N st tl wt k S ≠ 0 ∧ x = srchNo N st tl wt k S) ∨ (srchNo N st tl wt k S = 0 ∧ (A.length : Int) ≠ N ∧ x = 34)) → ∃ Y D x, Trees N st tl wt k S A Y D x := fun x hx =>
    ⟨[], [], x, fun a b c sv lv W hG hs hl => (tree_bad N a b c st tl wt k sv S lv A W hG hst hto hwt hs hS hl x hx).mono fun e w' h => ⟨_, _, _, _, _, _, h.1, RowAt.nil _, RowAt.nil _, h.2⟩,
      fun a b c sv lv W hG hs hl => (refTree_bad N a b c st tl wt k sv S lv A W hG hst hto hwt hs hS hl x hx).mono fun e w' h => ⟨_, _, _, _, _, _, h.1, RowAt.nil _, RowAt.nil _, h.2⟩⟩
  by_cases h0 : srchNo N st tl wt k S = 0
  · by_cases hlen : (A.length : Int) = N
    · obtain ⟨n, rfl, hg, hsn⟩ := srch_good h0
      have hAn : A.length = n := by omega
      have hok := sok_of hsn (fun j hj => (hSb j hj).1)
      obtain ⟨L, hB⟩ := beg_is hok
      obtain ⟨F, hF⟩ := found_is (k := k) hg hwb hSb _ L (Nat.le_refl _) (LL.beg hB)
      by_cases hAF : A = F
      · subst hAF
        obtain ⟨D, Y, hW⟩ := whole_is (k := k) (S := S) (L := A) hg
        have hn : n ≤ 9223372036854775807 := by have := hg.n_le; omega
        have key : ∀ {w w' : World} {e : Ending}, TreeW w n st tl wt k S A e w' → TAns Y D 0 w e w' := by
          rintro w w' e ⟨GY, GD, Y2, D2, rfl, h1, h2, h3, h4⟩
          obtain ⟨rfl, rfl⟩ := h3.only hg hW
          obtain ⟨d, hTD, _⟩ := h3
          exact ⟨_, _, _, _, _, _, rfl, h1.row hTD.yl hn, h2.row hTD.dl hn, h4⟩
        exact ⟨Y, D, 0, fun a b c sv lv W hG hs hl => (tree_good n a b c st tl wt k sv S lv A W hG h0 hwb hs hSb hS hl hF).mono fun e w' h => key h,
          fun a b c sv lv W hG hs hl => (refTree_good n a b c st tl wt k sv S lv A W hG h0 hwb hs hSb hS hl hF).mono fun e w' h => key h⟩
      · exact ⟨[], [], 51, fun a b c sv lv W hG hs hl => (tree_other n a b c st tl wt k sv S lv A F W hG h0 hwb hs hSb hS hl hF hAn hAF).mono fun e w' h => ⟨_, _, _, _, _, _, h.1, RowAt.nil _, RowAt.nil _, h.2⟩,
          fun a b c sv lv W hG hs hl => (refTree_other n a b c st tl wt k sv S lv A F W hG h0 hwb hs hSb hS hl hF hAn hAF).mono fun e w' h => ⟨_, _, _, _, _, _, h.1, RowAt.nil _, RowAt.nil _, h.2⟩⟩
    · exact bad 34 (.inr ⟨h0, hlen, rfl⟩)
  · exact bad _ (.inl ⟨h0, rfl⟩)
end Go.Proofs.Ythoklgdlnmccmaa

/- RouteTrees: the walk. -/
namespace Go.Proofs.Ythoklgdlnmccmaa
open Go.RowKit Go.Lib
set_option linter.unusedVariables false

set_option maxRecDepth 100000 in
set_option maxHeartbeats 8000000 in
theorem trees_law (N : Int) (va vb vc : Value) (st tl wt : List Int) (k : Int) (sv : Value) (S : List Pr) (lv : Value) (A : List Int) (w : World) (hg : GIs w N va vb vc st tl wt) (hst : st.length * 8 ≤ 140737488351232) (hto : tl.length * 8 ≤ 140737488351232) (hwt : wt.length * 8 ≤ 140737488351232)
    (hs : SAt w sv S) (hw : ∀ j, j < S.length → 0 ≤ (sAt S j).2 ∧ (sAt S j).2 ≤ 18446744073709551615) (hS : S.length * 16 ≤ 140737488353280) (hwb : ∀ e, 0 ≤ at_ wt e ∧ at_ wt e ≤ 18446744073709551615) (hl : RowAt .u64 w lv A) (hA : A.length * 8 ≤ 140737488351232) :
    Calls Try.prog 10 #[gAgg N va vb vc, .int .i64 k, sv, lv] w fun e w' => e = .returned (.bool true) ∧ Below w.heap.size w w' := by
  obtain ⟨Y, D, x, h4⟩ := trees_any N st tl wt k S A (by omega) (by omega) (by omega) hwb hw hS
  have H4 := hide h4
  clear h4 hw hwb
  obtain ⟨ao, ca, rfl⟩ := hg.s.shape
  obtain ⟨bo, cb, rfl⟩ := hg.t.shape
  obtain ⟨co, cc, rfl⟩ := hg.u.shape
  obtain ⟨so, sc, rfl, hsc, hscm⟩ := hs.shape
  obtain ⟨lo, lc, rfl⟩ := hl.shape
  obtain ⟨c0, c1, c2, c3, hb1, hs1⟩ := boxed w (.int .i64 N) (.slice ao st.length ca) (.slice bo tl.length cb) (.slice co wt.length cc)
  have HG1 := hide (hg.below hb1)
  have HS1 := hide (hs.below hb1)
  have HL1 := hide (hl.below hb1)
  have HB1 := hide hb1
  have HX1 := hide (And.intro c0 (And.intro c1 (And.intro c2 c3)))
  have HRS := hide (H4.out.r _ _ _ _ _ _ HG1.out HS1.out HL1.out)
  unfold gAgg at HRS ⊢
  clear hb1 hg hs hl
  go_enter Try.func10, Try.ntmps10
  go_wp2_with fail
  generalize (w.alloc (.cells #[.int .i64 N, .slice ao st.length ca, .slice bo tl.length cb, .slice co wt.length cc] 32)) = w1 at c0 c1 c2 c3 hs1 HB1 HG1 HS1 HL1 HX1 HRS ⊢
  refine HRS.out.mono ?_
  rintro e w3 ⟨o2, n2, q2, o3, n3, q3, rfl, hr2, hr3, hb3⟩
  have HX3 := hide (box_keep hs1 hb3 HX1.out)
  clear c0 c1 c2 c3
  obtain ⟨d0, d1, d2, d3⟩ := HX3.out
  have hs3 : w.heap.size < w3.heap.size := by have := hb3.size; omega
  have HB3 := hide (below_on HB1.out hb3)
  have HG3 := hide (HG1.out.below hb3)
  have HS3 := hide (HS1.out.below hb3)
  have HL3 := hide (HL1.out.below hb3)
  have HR3a := hide hr2
  have HR3b := hide hr3
  clear hb3 hr2 hr3 HRS HG1 HS1 HL1 HB1 HX1
  go_wp2_with fail
  have HTW := hide (twin_any N _ _ _ st tl wt w3 HG3.out hst hto hwt)
  unfold gAgg at HTW
  refine HTW.out.mono ?_
  rintro e w4 ⟨g1, p1, g2, p2, g3, p3, rfl, ht, hb4⟩
  have HX4 := hide (box_keep hs3 hb4 HX3.out)
  have hs4 : w.heap.size < w4.heap.size := by have := hb4.size; omega
  have HB4 := hide (below_on HB3.out hb4)
  have HG4 := hide (HG3.out.below hb4)
  have HS4 := hide (HS3.out.below hb4)
  have HL4 := hide (HL3.out.below hb4)
  have HR4a := hide (HR3a.out.below hb4)
  have HR4b := hide (HR3b.out.below hb4)
  have HT4 := hide ht
  clear d0 d1 d2 d3 hb4 ht HTW HG3 HS3 HL3 HB3 HX3 HR3a HR3b
  unfold tAgg gAgg
  go_wp2_with fail
  obtain ⟨b0, b1, b2, b3, hb5, hs5⟩ := boxed w4 (.int .i64 N) (.slice (some ⟨g1, 0, none⟩) st.length p1) (.slice (some ⟨g2, 0, none⟩) tl.length p2) (.slice (some ⟨g3, 0, none⟩) wt.length p3)
  have HTX := hide (And.intro b0 (And.intro b1 (And.intro b2 b3)))
  have HX5 := hide (box_keep hs4 hb5 HX4.out)
  have HB5 := hide (below_on HB4.out hb5)
  have HG5 := hide (HG4.out.below hb5)
  have HS5 := hide (HS4.out.below hb5)
  have HL5 := hide (HL4.out.below hb5)
  have HR5a := hide (HR4a.out.below hb5)
  have HR5b := hide (HR4b.out.below hb5)
  have HT5 := hide (HT4.out.below hb5)
  clear hb5 HG4 HS4 HL4 HB4 HX4 HR4a HR4b HT4
  generalize (w4.alloc (.cells #[.int .i64 N, .slice (some ⟨g1, 0, none⟩) st.length p1, .slice (some ⟨g2, 0, none⟩) tl.length p2, .slice (some ⟨g3, 0, none⟩) wt.length p3] 32)) = w5 at b0 b1 b2 b3 hs5 HTX HX5 HB5 HG5 HS5 HL5 HR5a HR5b HT5 ⊢
  have hs5' : w.heap.size < w5.heap.size := by omega
  refine (startsM_any _ S w5 HS5.out hS).mono ?_
  rintro e w6 ⟨g6, c6, rfl, hg6, hm6, hb6⟩
  clear b0 b1 b2 b3
  have HTX6 := hide (box_keep hs5 hb6 HTX.out)
  have HX6 := hide (box_keep hs5' hb6 HX5.out)
  have hs6 : w4.heap.size < w6.heap.size := by have := hb6.size; omega
  have hs6' : w.heap.size < w6.heap.size := by omega
  have HB6 := hide (below_on HB5.out hb6)
  have HG6 := hide (HG5.out.below hb6)
  have HS6 := hide (HS5.out.below hb6)
  have HL6 := hide (HL5.out.below hb6)
  have HR6a := hide (HR5a.out.below hb6)
  have HR6b := hide (HR5b.out.below hb6)
  have HT6 := hide (HT5.out.below hb6)
  have HM6 := hide hm6
  clear hb6 hm6 hg6 HG5 HS5 HL5 HB5 HX5 HTX HR5a HR5b HT5
  go_wp2_with fail
  refine (words_any _ A w6 HL6.out hA).mono ?_
  rintro e w7 ⟨g7, c7, rfl, hg7, hm7, hb7⟩
  have HTX7 := hide (box_keep hs6 hb7 HTX6.out)
  obtain ⟨b0, b1, b2, b3⟩ := HTX7.out
  have HX7 := hide (box_keep hs6' hb7 HX6.out)
  have hs7 : w4.heap.size < w7.heap.size := by have := hb7.size; omega
  have hs7' : w.heap.size < w7.heap.size := by omega
  have HB7 := hide (below_on HB6.out hb7)
  have HG7 := hide (HG6.out.below hb7)
  have HS7 := hide (HS6.out.below hb7)
  have HL7 := hide (HL6.out.below hb7)
  have HR7a := hide (HR6a.out.below hb7)
  have HR7b := hide (HR6b.out.below hb7)
  have HT7 := hide (HT6.out.below hb7)
  have HM7 := hide (HM6.out.below hb7)
  have HW7 := hide hm7
  clear hb7 hm7 hg7 HG6 HS6 HL6 HB6 HX6 HTX6 HR6a HR6b HT6 HM6
  go_wp2_with fail
  have HPR := hide (H4.out.t _ _ _ _ _ w7 HT7.out.gis HM7.out.2.1 HW7.out.row)
  unfold gAgg at HPR
  refine HPR.out.mono ?_
  rintro e w8 ⟨o8, n8, q8, o9, n9, q9, rfl, hr8, hr9, hb8⟩
  clear b0 b1 b2 b3
  have HTX8 := hide (box_keep hs7 hb8 HTX7.out)
  have HX8 := hide (box_keep hs7' hb8 HX7.out)
  have hs8 : w4.heap.size < w8.heap.size := by have := hb8.size; omega
  have hs8' : w.heap.size < w8.heap.size := by omega
  have HB8 := hide (below_on HB7.out hb8)
  have HG8 := hide (HG7.out.below hb8)
  have HS8 := hide (HS7.out.below hb8)
  have HL8 := hide (HL7.out.below hb8)
  have HR8a := hide (HR7a.out.below hb8)
  have HR8b := hide (HR7b.out.below hb8)
  have HT8 := hide (HT7.out.below hb8)
  have HM8 := hide (HM7.out.below hb8)
  have HW8 := hide (HW7.out.below hb8)
  have HR8c := hide hr8
  have HR8d := hide hr9
  clear hb8 hr8 hr9 HPR HG7 HS7 HL7 HB7 HX7 HTX7 HR7a HR7b HT7 HM7 HW7 H4
  go_wp2_with fail
  refine (same_any _ _ Y w8 HR8c.out HR8a.out).mono ?_
  rintro e w9 ⟨rfl, hb9⟩
  have HTX9 := hide (box_keep hs8 hb9 HTX8.out)
  have HX9 := hide (box_keep hs8' hb9 HX8.out)
  have hs9 : w4.heap.size < w9.heap.size := by have := hb9.size; omega
  have hs9' : w.heap.size < w9.heap.size := by omega
  have HB9 := hide (below_on HB8.out hb9)
  have HG9 := hide (HG8.out.below hb9)
  have HS9 := hide (HS8.out.below hb9)
  have HL9 := hide (HL8.out.below hb9)
  have HR9b := hide (HR8b.out.below hb9)
  have HR9d := hide (HR8d.out.below hb9)
  have HT9 := hide (HT8.out.below hb9)
  have HM9 := hide (HM8.out.below hb9)
  have HW9 := hide (HW8.out.below hb9)
  clear hb9 HG8 HS8 HL8 HB8 HX8 HTX8 HR8a HR8b HR8c HR8d HT8 HM8 HW8
  go_wp2_with fail
  refine (same_any _ _ D w9 HR9d.out HR9b.out).mono ?_
  rintro e w10 ⟨rfl, hb10⟩
  have HTX10 := hide (box_keep hs9 hb10 HTX9.out)
  have HX10 := hide (box_keep hs9' hb10 HX9.out)
  obtain ⟨b0, b1, b2, b3⟩ := HTX10.out
  obtain ⟨d0, d1, d2, d3⟩ := HX10.out
  have HB10 := hide (below_on HB9.out hb10)
  have HG10 := hide (HG9.out.below hb10)
  have HS10 := hide (HS9.out.below hb10)
  have HL10 := hide (HL9.out.below hb10)
  have HT10 := hide (HT9.out.below hb10)
  have HM10 := hide (HM9.out.below hb10)
  have HW10 := hide (HW9.out.below hb10)
  clear hb10 HG9 HS9 HL9 HB9 HX9 HTX9 HR9b HR9d HT9 HM9 HW9
  have hxx : (x == x) = true := by simp
  go_wp2_with fail
  have HK := hide (twinKept_any N _ _ _ st tl wt g1 p1 g2 p2 g3 p3 w10 HT10.out HG10.out hst hto hwt)
  unfold tAgg gAgg at HK
  refine HK.out.mono ?_
  rintro e w11 ⟨rfl, hb11⟩
  have HB11 := hide (below_on HB10.out hb11)
  have HS11 := hide (HS10.out.below hb11)
  have HL11 := hide (HL10.out.below hb11)
  have HM11 := hide (HM10.out.below hb11)
  have HW11 := hide (HW10.out.below hb11)
  clear hb11 b0 b1 b2 b3 d0 d1 d2 d3 HK HG10 HS10 HL10 HB10 HT10 HM10 HW10 HTX10 HX10
  go_wp2_with fail
  refine (startsKept_any g6 c6 _ S w11 HM11.out HS11.out hS).mono ?_
  rintro e w12 ⟨rfl, hb12⟩
  have HB12 := hide (below_on HB11.out hb12)
  have HL12 := hide (HL11.out.below hb12)
  have HW12 := hide (HW11.out.below hb12)
  clear hb12 HB11 HS11 HL11 HM11 HW11
  go_wp2_with fail
  refine (wordsKept_any g7 c7 _ A w12 HW12.out HL12.out hA).mono ?_
  rintro e w13 ⟨rfl, hb13⟩
  have HB13 := hide (below_on HB12.out hb13)
  clear hb13
  go_wp2
  go_ret
  exact ⟨rfl, HB13.out⟩
end Go.Proofs.Ythoklgdlnmccmaa
