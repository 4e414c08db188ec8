/- room: a graph's lists with marks behind them. -/
import Derived.Test.YtmagigmcbegmiaaCopy
import Derived.Test.YtmagigmcbegmiaaMarks
namespace Go.Proofs.Ytmagigmcbegmiaa
open Go.RowKit Go.Lib
set_option linter.unusedVariables false

theorem own_new (X : World) (e : TypeId) (B : Nat) (hB : B = X.heap.size) : (X.alloc (.cells #[] e)).ownsRow X.heap.size e 1 (.slice (some ⟨B, 0, none⟩) 0 0) 0 [] := by
  subst hB
  exact World.ownsRow_made X #[] 0 (Nat.le_refl _) (Nat.zero_le _) rfl
/-- The room's block, in a world that has grown. -/
theorem room_step {wC X X' : World} {R : Nat} {cs : Array Value} (bel : Below wC.heap.size wC X) (blk : X.heap[R]? = some (.cells cs 32 (0, 0))) (hb : Below X.heap.size X X') :
    Below wC.heap.size wC X' ∧ X'.heap[R]? = some (.cells cs 32 (0, 0)) := ⟨below_on bel hb, (hb.block R (lt_of_heap blk)).trans blk⟩
theorem room_set {wC X : World} {R : Nat} {cs : Array Value} (bel : Below wC.heap.size wC X) (blk : X.heap[R]? = some (.cells cs 32 (0, 0))) (hR : wC.heap.size ≤ R) (f : Nat) (v : Value) :
    Below wC.heap.size wC (X.setCell ⟨R, f, none⟩ v) ∧ (X.setCell ⟨R, f, none⟩ v).heap[R]? = some (.cells (cs.setIfInBounds f v) 32 (0, 0)) :=
  ⟨bel.setCell hR _, heap_set blk v⟩

/-- The three lists with their marks, behind the last store. -/
theorem room_rows {w1b w2b w3b : World} {R g1 g2 g3 e1 e2 e3 n1 n2 n3 : Nat} {l1 l2 l3 : List Int} {u1 u2 u3 : Value}
    (h2 : Below (w1b.setCell ⟨R, 4, none⟩ u1).heap.size (w1b.setCell ⟨R, 4, none⟩ u1) w2b) (h3 : Below (w2b.setCell ⟨R, 5, none⟩ u2).heap.size (w2b.setCell ⟨R, 5, none⟩ u2) w3b)
    (r1 : RowAt .i64 w1b (.slice (some ⟨g1, 0, none⟩) n1 e1) l1) (r2 : RowAt .i64 w2b (.slice (some ⟨g2, 0, none⟩) n2 e2) l2) (r3 : RowAt .u64 w3b (.slice (some ⟨g3, 0, none⟩) n3 e3) l3)
    (k1 : R < g1) (k2 : R < g2) (k3 : R < g3) :
    RowAt .i64 (w3b.setCell ⟨R, 6, none⟩ u3) (.slice (some ⟨g1, 0, none⟩) n1 e1) l1 ∧ RowAt .i64 (w3b.setCell ⟨R, 6, none⟩ u3) (.slice (some ⟨g2, 0, none⟩) n2 e2) l2 ∧ RowAt .u64 (w3b.setCell ⟨R, 6, none⟩ u3) (.slice (some ⟨g3, 0, none⟩) n3 e3) l3 := by
  have m1 : ∀ a : Addr, some (⟨g1, 0, none⟩ : Addr) = some a → ¬ a.block = R := fun a ha => by cases ha; show ¬ g1 = R; omega
  have m2 : ∀ a : Addr, some (⟨g2, 0, none⟩ : Addr) = some a → ¬ a.block = R := fun a ha => by cases ha; show ¬ g2 = R; omega
  have m3 : ∀ a : Addr, some (⟨g3, 0, none⟩ : Addr) = some a → ¬ a.block = R := fun a ha => by cases ha; show ¬ g3 = R; omega
  refine ⟨?_, ?_, ?_⟩
  · exact ((((r1.setOther R 4 u1 m1).below h2).setOther R 5 u2 m1).below h3).setOther R 6 u3 m1
  · exact ((r2.setOther R 5 u2 m2).below h3).setOther R 6 u3 m2
  · exact r3.setOther R 6 u3 m3

/-- A room in memory: the copy, the three lists with their marks, and what is handed in. -/
def RoomIs (w : World) (R : Nat) (N : Int) (st to wt : List Int) : Prop :=
  ∃ ao ca bo cb co cc g1 e1 g2 e2 g3 e3, w.heap[R]? = some (.cells #[.int .i64 N, .slice ao st.length ca, .slice bo to.length cb, .slice co wt.length cc, .slice (some ⟨g1, 0, none⟩) (st.length + 2) e1, .slice (some ⟨g2, 0, none⟩) (to.length + 2) e2, .slice (some ⟨g3, 0, none⟩) (wt.length + 2) e3,
      .int .i64 N, .slice (some ⟨g1, 0, none⟩) st.length e1, .slice (some ⟨g2, 0, none⟩) to.length e2, .slice (some ⟨g3, 0, none⟩) wt.length e3] 32 (0, 0)) ∧
    GIs w N (.slice ao st.length ca) (.slice bo to.length cb) (.slice co wt.length cc) st to wt ∧
    RowAt .i64 w (.slice (some ⟨g1, 0, none⟩) (st.length + 2) e1) (st ++ [-71, -72]) ∧ RowAt .i64 w (.slice (some ⟨g2, 0, none⟩) (to.length + 2) e2) (to ++ [-73, -74]) ∧ RowAt .u64 w (.slice (some ⟨g3, 0, none⟩) (wt.length + 2) e3) (wt ++ [75, 76])
theorem RoomIs.below {w w' : World} {R : Nat} {N : Int} {st to wt : List Int} (h : RoomIs w R N st to wt) (hb : Below w.heap.size w w') : RoomIs w' R N st to wt := by
  obtain ⟨ao, ca, bo, cb, co, cc, g1, e1, g2, e2, g3, e3, hh, hg, h1, h2, h3⟩ := h
  exact ⟨ao, ca, bo, cb, co, cc, g1, e1, g2, e2, g3, e3, (hb.block R (lt_of_heap hh)).trans hh, hg.below hb, h1.below hb, h2.below hb, h3.below hb⟩
theorem RowAt.off {k : IntKind} {w wC : World} {ao : Option Addr} {n c : Nat} {xs : List Int} (h : RowAt k wC (.slice ao n c) xs) (hb : Below wC.heap.size wC w) (f : Nat) (u : Value) : RowAt k (w.setCell ⟨wC.heap.size, f, none⟩ u) (.slice ao n c) xs :=
  h.below (hb.setCell (Nat.le_refl _) _)

theorem room_last {w wC X : World} {N : Int} {ao bo co : Option Addr} {ca cb cc g1 e1 g2 e2 g3 e3 : Nat} {st to wt : List Int} {y7 y8 y9 y10 : Value} (hb : Below w.heap.size w X) (hC : w.heap.size ≤ wC.heap.size)
    (hh : X.heap[wC.heap.size]? = some (.cells #[.int .i64 N, .slice ao st.length ca, .slice bo to.length cb, .slice co wt.length cc, .slice (some ⟨g1, 0, none⟩) (st.length + 2) e1, .slice (some ⟨g2, 0, none⟩) (to.length + 2) e2, .slice (some ⟨g3, 0, none⟩) (wt.length + 2) e3, y7, y8, y9, y10] 32 (0, 0)))
    (_hX : GIs X N (.slice ao st.length ca) (.slice bo to.length cb) (.slice co wt.length cc) st to wt) (hG : GIs wC N (.slice ao st.length ca) (.slice bo to.length cb) (.slice co wt.length cc) st to wt) (hbC : Below wC.heap.size wC X)
    (r1 : RowAt .i64 X (.slice (some ⟨g1, 0, none⟩) (st.length + 2) e1) (st ++ [-71, -72])) (r2 : RowAt .i64 X (.slice (some ⟨g2, 0, none⟩) (to.length + 2) e2) (to ++ [-73, -74])) (r3 : RowAt .u64 X (.slice (some ⟨g3, 0, none⟩) (wt.length + 2) e3) (wt ++ [75, 76]))
    (k1 : wC.heap.size < g1) (k2 : wC.heap.size < g2) (k3 : wC.heap.size < g3) :
    let wf := ((((X.setCell ⟨wC.heap.size, 7, none⟩ (.int .i64 N)).setCell ⟨wC.heap.size, 8, none⟩ (.slice (some ⟨g1, 0, none⟩) st.length e1)).setCell ⟨wC.heap.size, 9, none⟩ (.slice (some ⟨g2, 0, none⟩) to.length e2)).setCell ⟨wC.heap.size, 10, none⟩ (.slice (some ⟨g3, 0, none⟩) wt.length e3)).drew
    RoomIs wf wC.heap.size N st to wt ∧ Below w.heap.size w wf := by
  intro wf
  have hw4 := heap_set (i := 10) (heap_set (i := 9) (heap_set (i := 8) (heap_set (i := 7) hh (.int .i64 N)) (.slice (some ⟨g1, 0, none⟩) st.length e1)) (.slice (some ⟨g2, 0, none⟩) to.length e2)) (.slice (some ⟨g3, 0, none⟩) wt.length e3)
  have hB4 : Below wC.heap.size wC wf := ((((hbC.setCell (p := ⟨wC.heap.size, 7, none⟩) (Nat.le_refl _) _).setCell (p := ⟨wC.heap.size, 8, none⟩) (Nat.le_refl _) _).setCell (p := ⟨wC.heap.size, 9, none⟩) (Nat.le_refl _) _).setCell (p := ⟨wC.heap.size, 10, none⟩) (Nat.le_refl _) _).drew
  have m1 : ∀ a : Addr, some (⟨g1, 0, none⟩ : Addr) = some a → ¬ a.block = wC.heap.size := fun a ha => by cases ha; show ¬ g1 = wC.heap.size; omega
  have m2 : ∀ a : Addr, some (⟨g2, 0, none⟩ : Addr) = some a → ¬ a.block = wC.heap.size := fun a ha => by cases ha; show ¬ g2 = wC.heap.size; omega
  have m3 : ∀ a : Addr, some (⟨g3, 0, none⟩ : Addr) = some a → ¬ a.block = wC.heap.size := fun a ha => by cases ha; show ¬ g3 = wC.heap.size; omega
  refine ⟨⟨ao, ca, bo, cb, co, cc, g1, e1, g2, e2, g3, e3, ?_, hG.below hB4, ?_, ?_, ?_⟩, ?_⟩
  · show ((((X.setCell ⟨wC.heap.size, 7, none⟩ (.int .i64 N)).setCell ⟨wC.heap.size, 8, none⟩ (.slice (some ⟨g1, 0, none⟩) st.length e1)).setCell ⟨wC.heap.size, 9, none⟩ (.slice (some ⟨g2, 0, none⟩) to.length e2)).setCell ⟨wC.heap.size, 10, none⟩ (.slice (some ⟨g3, 0, none⟩) wt.length e3)).heap[wC.heap.size]? = _
    rw [hw4]; simp
  · exact ((((r1.setOther _ 7 _ m1).setOther _ 8 _ m1).setOther _ 9 _ m1).setOther _ 10 _ m1).below (Below.refl _ _).drew
  · exact ((((r2.setOther _ 7 _ m2).setOther _ 8 _ m2).setOther _ 9 _ m2).setOther _ 10 _ m2).below (Below.refl _ _).drew
  · exact ((((r3.setOther _ 7 _ m3).setOther _ 8 _ m3).setOther _ 9 _ m3).setOther _ 10 _ m3).below (Below.refl _ _).drew
  · exact ((((hb.setCell (p := ⟨wC.heap.size, 7, none⟩) hC _).setCell (p := ⟨wC.heap.size, 8, none⟩) hC _).setCell (p := ⟨wC.heap.size, 9, none⟩) hC _).setCell (p := ⟨wC.heap.size, 10, none⟩) hC _).drew

set_option maxRecDepth 100000 in
set_option maxHeartbeats 8000000 in
theorem room_any (N : Int) (va vb vc : Value) (st to wt : List Int) (w : World) (hg : GIs w N va vb vc st to wt) (hst : st.length * 8 ≤ 140737488351232) (hto : to.length * 8 ≤ 140737488351232) (hwt : wt.length * 8 ≤ 140737488351232) :
    Calls Try.prog 13 #[gAgg N va vb vc] w fun e w' => ∃ R, e = .returned (.pointer (some ⟨R, 0, none⟩)) ∧ w.heap.size ≤ R ∧ RoomIs w' R N st to wt ∧ Below w.heap.size w w' := by
  obtain ⟨i0, hi, hz0, hz1, hz2⟩ := info_parts Try.info3
  obtain ⟨j0, hj, hy0, hy1, hy2⟩ := info_parts Try.info48
  obtain ⟨ao, ca, rfl⟩ := hg.s.shape
  obtain ⟨bo, cb, rfl⟩ := hg.t.shape
  obtain ⟨co, cc, rfl⟩ := hg.u.shape
  have HG := hide hg
  clear hg
  unfold gAgg
  obtain ⟨c0, c1, c2, c3, hb1, hs1⟩ := boxed w (.int .i64 N) (.slice ao st.length ca) (.slice bo to.length cb) (.slice co wt.length cc)
  have HCP := hide (copy_any N _ _ _ st to wt _ (HG.out.below hb1) hst hto hwt)
  unfold gAgg at HCP
  have HB1 := hide hb1
  go_enter Try.func13, Try.ntmps13
  go_wp2_with fail
  generalize (w.alloc (.cells #[.int .i64 N, .slice ao st.length ca, .slice bo to.length cb, .slice co wt.length cc] 25)) = w1 at c0 c1 c2 c3 hs1 HB1 HCP ⊢
  refine HCP.out.mono ?_
  rintro e wC ⟨a, b, c, rfl, hGC, hBC⟩
  obtain ⟨ao', ca', rfl⟩ := hGC.s.shape
  obtain ⟨bo', cb', rfl⟩ := hGC.t.shape
  obtain ⟨co', cc', rfl⟩ := hGC.u.shape
  have HGC := hide hGC
  have d1 := (below_cell (o := 1) hBC hs1).trans c1
  have d2 := (below_cell (o := 2) hBC hs1).trans c2
  have d3 := (below_cell (o := 3) hBC hs1).trans c3
  have d0 := (below_cell (o := 0) hBC hs1).trans c0
  have HBC := hide (below_on HB1.out hBC)
  have hsC : w.heap.size < wC.heap.size := by have := hBC.size; omega
  clear hGC hBC c0 c1 c2 c3 HB1 hb1 HCP hs1
  have HY : Hid (Below wC.heap.size wC (wC.alloc (.cells #[.int .i64 N, .slice ao' st.length ca', .slice bo' to.length cb', .slice co' wt.length cc', .slice none 0 0, .slice none 0 0, .slice none 0 0, .int .i64 0, .slice none 0 0, .slice none 0 0, .slice none 0 0] 32)) ∧ (wC.alloc (.cells #[.int .i64 N, .slice ao' st.length ca', .slice bo' to.length cb', .slice co' wt.length cc', .slice none 0 0, .slice none 0 0, .slice none 0 0, .int .i64 0, .slice none 0 0, .slice none 0 0, .slice none 0 0] 32)).heap[wC.heap.size]? = some (.cells #[.int .i64 N, .slice ao' st.length ca', .slice bo' to.length cb', .slice co' wt.length cc', .slice none 0 0, .slice none 0 0, .slice none 0 0, .int .i64 0, .slice none 0 0, .slice none 0 0, .slice none 0 0] 32 (0, 0))) := ⟨(Below.refl _ _).alloc (Nat.le_refl _) _, heap_new _ _⟩
  have hAR : ¬ w.heap.size = wC.heap.size := by omega
  go_wp2_with (first
    | (at_builtin; refine wpList_fresh rfl (.tmp 9) (.tmp 11) 22 rfl .i64 3 i0 (.int .i64 0) 8 Try.underlying22 hi hz0 hz1 hz2 rfl (wC.heap.size + 1) _ (own_new _ 3 (wC.heap.size + 1) (by simp)) (by simp) _ st rfl rfl (HG.out.below (below_alloc (below_on HBC.out (HY.out.1)) _)).s (by omega) (by unfold maxLen; omega) ?_; intro v1 w1a hownA1 hbelA1)
    | (at_builtin; refine wpList_append_own _ rfl (.tmp 12) (.tmp 13) 22 rfl _ 3 i0 (.int .i64 0) 1 8 Try.underlying22 hi hz0 hz1 hz2 rfl (by decide) _ _ _ rfl (hownA1.alloc _) ⟨w1a.heap.size, 0, none⟩ 2 2 [.int .i64 (-71), .int .i64 (-72)] rfl rfl (two_at w1a _ _ _) (by simp [Value.oneCell']) (by unfold maxLen; omega) (by omega) (by have hq := hbelA1.size; simp at hq; simp; omega) ?_; intro u1 w1b hownB1 hgrowB1 hqB1; obtain ⟨g1, e1, rfl, ka1, kb1, kc1, hrow1, hbel1⟩ := marks_made hownA1 (below_on (below_alloc (Below.refl _ _) _) hbelA1) hownB1 hgrowB1; have hq1 := room_step (HY.out.1) (HY.out.2) hbel1; have s1 : w1b.cell? ⟨wC.heap.size, 4, none⟩ = some (.slice none 0 0) := cell_of hq1.2 rfl; have f1 : w1b.frozen? ⟨wC.heap.size, 4, none⟩ = false := free_of hq1.2 4; have nn1 : ¬ w.heap.size = w1b.heap.size := (by have hz := hq1.1.size; omega); have HQ1 := hide (room_set hq1.1 hq1.2 (Nat.le_refl _) 4 (.slice (some ⟨g1, 0, none⟩) (st.length + 2) e1)); have a2 : ∀ o, ((w1b.setCell ⟨wC.heap.size, 4, none⟩ (.slice (some ⟨g1, 0, none⟩) (st.length + 2) e1)).alloc o).cell? ⟨w.heap.size, 2, none⟩ = some (.slice bo to.length cb) := (fun o => (below_cell (o := 2) (below_alloc HQ1.out.1 o) hsC).trans d2); have HROW1 := hide hrow1; have HBEL1 := hide hbel1; clear hownA1 hbelA1 hownB1 hgrowB1 hqB1 hq1 hrow1 hbel1)
    | (at_builtin; refine wpList_fresh rfl (.tmp 18) (.tmp 20) 22 rfl .i64 3 i0 (.int .i64 0) 8 Try.underlying22 hi hz0 hz1 hz2 rfl w1b.heap.size _ (own_new _ 3 w1b.heap.size (by simp)) (by simp) _ to rfl rfl (HG.out.below (below_alloc (below_on HBC.out (HQ1.out.1)) _)).t (by omega) (by unfold maxLen; omega) ?_; intro v2 w2a hownA2 hbelA2)
    | (at_builtin; refine wpList_append_own _ rfl (.tmp 21) (.tmp 22) 22 rfl _ 3 i0 (.int .i64 0) 1 8 Try.underlying22 hi hz0 hz1 hz2 rfl (by decide) _ _ _ rfl (hownA2.alloc _) ⟨w2a.heap.size, 0, none⟩ 2 2 [.int .i64 (-73), .int .i64 (-74)] rfl rfl (two_at w2a _ _ _) (by simp [Value.oneCell']) (by unfold maxLen; omega) (by omega) (by have hq := hbelA2.size; simp at hq; simp; omega) ?_; intro u2 w2b hownB2 hgrowB2 hqB2; obtain ⟨g2, e2, rfl, ka2, kb2, kc2, hrow2, hbel2⟩ := marks_made hownA2 (below_on (below_alloc (Below.refl _ _) _) hbelA2) hownB2 hgrowB2; have hq2 := room_step (HQ1.out.1) (HQ1.out.2) hbel2; have s2 : w2b.cell? ⟨wC.heap.size, 5, none⟩ = some (.slice none 0 0) := cell_of hq2.2 rfl; have f2 : w2b.frozen? ⟨wC.heap.size, 5, none⟩ = false := free_of hq2.2 5; have nn2 : ¬ w.heap.size = w2b.heap.size := (by have hz := hq2.1.size; omega); have HQ2 := hide (room_set hq2.1 hq2.2 (Nat.le_refl _) 5 (.slice (some ⟨g2, 0, none⟩) (to.length + 2) e2)); have a3 : ∀ o, ((w2b.setCell ⟨wC.heap.size, 5, none⟩ (.slice (some ⟨g2, 0, none⟩) (to.length + 2) e2)).alloc o).cell? ⟨w.heap.size, 3, none⟩ = some (.slice co wt.length cc) := (fun o => (below_cell (o := 3) (below_alloc HQ2.out.1 o) hsC).trans d3); have HROW2 := hide hrow2; have HBEL2 := hide hbel2; clear hownA2 hbelA2 hownB2 hgrowB2 hqB2 hq2 hrow2 hbel2)
    | (at_builtin; refine wpList_fresh rfl (.tmp 27) (.tmp 29) 23 rfl .u64 48 j0 (.int .u64 0) 8 Try.underlying23 hj hy0 hy1 hy2 rfl w2b.heap.size _ (own_new _ 48 w2b.heap.size (by simp)) (by simp) _ wt rfl rfl (HG.out.below (below_alloc (below_on HBC.out (HQ2.out.1)) _)).u (by omega) (by unfold maxLen; omega) ?_; intro v3 w3a hownA3 hbelA3)
    | (at_builtin; refine wpList_append_own _ rfl (.tmp 30) (.tmp 31) 23 rfl _ 48 j0 (.int .u64 0) 1 8 Try.underlying23 hj hy0 hy1 hy2 rfl (by decide) _ _ _ rfl (hownA3.alloc _) ⟨w3a.heap.size, 0, none⟩ 2 2 [.int .u64 75, .int .u64 76] rfl rfl (two_at w3a _ _ _) (by simp [Value.oneCell']) (by unfold maxLen; omega) (by omega) (by have hq := hbelA3.size; simp at hq; simp; omega) ?_; intro u3 w3b hownB3 hgrowB3 hqB3; obtain ⟨g3, e3, rfl, ka3, kb3, kc3, hrow3, hbel3⟩ := marks_made hownA3 (below_on (below_alloc (Below.refl _ _) _) hbelA3) hownB3 hgrowB3; have hq3 := room_step (HQ2.out.1) (HQ2.out.2) hbel3; have s3 : w3b.cell? ⟨wC.heap.size, 6, none⟩ = some (.slice none 0 0) := cell_of hq3.2 rfl; have f3 : w3b.frozen? ⟨wC.heap.size, 6, none⟩ = false := free_of hq3.2 6; have nn3 : ¬ w.heap.size = w3b.heap.size := (by have hz := hq3.1.size; omega); have HQ3 := hide (room_set hq3.1 hq3.2 (Nat.le_refl _) 6 (.slice (some ⟨g3, 0, none⟩) (wt.length + 2) e3)); have HROW3 := hide hrow3; have HBEL3 := hide hbel3; clear hownA3 hbelA3 hownB3 hgrowB3 hqB3 hq3 hrow3 hbel3)
    | fail)
  have hblk : (w3b.setCell ⟨wC.heap.size, 6, none⟩ (.slice (some ⟨g3, 0, none⟩) (wt.length + 2) e3)).heap[wC.heap.size]? = some (.cells #[.int .i64 N, .slice ao' st.length ca', .slice bo' to.length cb', .slice co' wt.length cc', .slice (some ⟨g1, 0, none⟩) (st.length + 2) e1, .slice (some ⟨g2, 0, none⟩) (to.length + 2) e2, .slice (some ⟨g3, 0, none⟩) (wt.length + 2) e3, .int .i64 0, .slice none 0 0, .slice none 0 0, .slice none 0 0] 32 (0, 0)) := by
    rw [HQ3.out.2]; simp
  have hrows := room_rows (u3 := .slice (some ⟨g3, 0, none⟩) (wt.length + 2) e3) HBEL2.out HBEL3.out HROW1.out HROW2.out HROW3.out (by have := HBC.out.size; simp at kc1; omega) (by have hq := lt_of_heap HQ1.out.2; omega) (by have hq := lt_of_heap HQ2.out.2; omega)
  have HX := hide (And.intro HQ3.out.1 hblk)
  have hg1 : wC.heap.size < g1 := by simp at kc1; omega
  have hg2 : wC.heap.size < g2 := by have hq := lt_of_heap HQ1.out.2; omega
  have hg3 : wC.heap.size < g3 := by have hq := lt_of_heap HQ2.out.2; omega
  have HRS := hide hrows
  clear hblk hrows s1 s2 s3 f1 f2 f3 a2 a3 HROW1 HROW2 HROW3 HBEL1 HBEL2 HBEL3 HQ1 HQ2 HQ3 nn1 nn2 nn3
  generalize (w3b.setCell ⟨wC.heap.size, 6, none⟩ (.slice (some ⟨g3, 0, none⟩) (wt.length + 2) e3)) = X at HX HRS ⊢
  have HXB := hide (below_on HBC.out HX.out.1)
  have x0 := (below_cell (o := 0) HX.out.1 hsC).trans d0
  have x1 := (below_cell (o := 1) HX.out.1 hsC).trans d1
  have x2 := (below_cell (o := 2) HX.out.1 hsC).trans d2
  have x3 := (below_cell (o := 3) HX.out.1 hsC).trans d3
  have y4 : X.cell? ⟨wC.heap.size, 4, none⟩ = some (.slice (some ⟨g1, 0, none⟩) (st.length + 2) e1) := cell_of HX.out.2 rfl
  have y5 : X.cell? ⟨wC.heap.size, 5, none⟩ = some (.slice (some ⟨g2, 0, none⟩) (to.length + 2) e2) := cell_of HX.out.2 rfl
  have y6 : X.cell? ⟨wC.heap.size, 6, none⟩ = some (.slice (some ⟨g3, 0, none⟩) (wt.length + 2) e3) := cell_of HX.out.2 rfl
  have y7 : X.cell? ⟨wC.heap.size, 7, none⟩ = some (.int .i64 0) := cell_of HX.out.2 rfl
  have y8 : X.cell? ⟨wC.heap.size, 8, none⟩ = some (.slice none 0 0) := cell_of HX.out.2 rfl
  have y9 : X.cell? ⟨wC.heap.size, 9, none⟩ = some (.slice none 0 0) := cell_of HX.out.2 rfl
  have y10 : X.cell? ⟨wC.heap.size, 10, none⟩ = some (.slice none 0 0) := cell_of HX.out.2 rfl
  have q7 := free_of HX.out.2 7
  have q8 := free_of HX.out.2 8
  have q9 := free_of HX.out.2 9
  have q10 := free_of HX.out.2 10
  have l1 : (st.length : Int) ≤ (e1 : Int) := by omega
  have l2 : (to.length : Int) ≤ (e2 : Int) := by omega
  have l3 : (wt.length : Int) ≤ (e3 : Int) := by omega
  clear d0 d1 d2 d3
  have HLAST := hide (room_last (X := X) (N := N) HXB.out (Nat.le_of_lt hsC) HX.out.2 (HGC.out.below HX.out.1) HGC.out HX.out.1 HRS.out.1 HRS.out.2.1 HRS.out.2.2 (by omega) (by omega) (by omega))
  go_region
  go_wp2
  go_ret
  exact ⟨wC.heap.size, rfl, Nat.le_of_lt hsC, HLAST.out.1, HLAST.out.2⟩
end Go.Proofs.Ytmagigmcbegmiaa
