import Derived.Test.YtmagigmcbegmiaaKept
import Derived.Test.YtmagigmcbegmiaaAqR
import Derived.Test.YtmagigmcbegmiaaCopy
import Derived.Test.YtmagigmcbegmiaaRB
import Derived.BigRegion
import Derived.BigQuiet
/- room, with the blocks of its lists. -/
namespace Go.Proofs.Ytmagigmcbegmiaa
open Go.RowKit Go.Lib
set_option linter.unusedVariables false
set_option linter.unusedSimpArgs false
/-- A room in memory, between the blocks H and S: the copy, the three lists with their marks, each in a block of its own, and what is handed in. -/
def RoomX (w : World) (H S R : Nat) (N : Int) (st tl wt : List Int) : Prop :=
  ∃ ao ca bo cb co cc g1 e1 g2 e2 g3 e3, w.heap[R]? = some (.cells #[.int .i64 N, .slice ao st.length ca, .slice bo tl.length cb, .slice co wt.length cc, .slice (some ⟨g1, 0, none⟩) (st.length + 2) e1, .slice (some ⟨g2, 0, none⟩) (tl.length + 2) e2, .slice (some ⟨g3, 0, none⟩) (wt.length + 2) e3,
      .int .i64 N, .slice (some ⟨g1, 0, none⟩) st.length e1, .slice (some ⟨g2, 0, none⟩) tl.length e2, .slice (some ⟨g3, 0, none⟩) wt.length e3] 32 (0, 0)) ∧
    GIs w N (.slice ao st.length ca) (.slice bo tl.length cb) (.slice co wt.length cc) st tl wt ∧
    w.ownsRow H 3 1 (.slice (some ⟨g1, 0, none⟩) (st.length + 2) e1) (st.length + 2) (st.map (Value.int .i64) ++ [.int .i64 (-71), .int .i64 (-72)]) ∧ w.ownsRow H 3 1 (.slice (some ⟨g2, 0, none⟩) (tl.length + 2) e2) (tl.length + 2) (tl.map (Value.int .i64) ++ [.int .i64 (-73), .int .i64 (-74)]) ∧ w.ownsRow H 48 1 (.slice (some ⟨g3, 0, none⟩) (wt.length + 2) e3) (wt.length + 2) (wt.map (Value.int .u64) ++ [.int .u64 75, .int .u64 76]) ∧
    g1 ≠ g2 ∧ H ≤ R ∧ R < S ∧ g1 < S ∧ g2 < S ∧ g3 < S ∧ S ≤ w.heap.size
theorem row_marks {k : IntKind} {e : TypeId} {w : World} {H g n c : Nat} {ws : List Int} {m1 m2 : Int} (h : w.ownsRow H e 1 (.slice (some ⟨g, 0, none⟩) n c) n (ws.map (Value.int k) ++ [.int k m1, .int k m2])) (hn : n = ws.length + 2) : RowAt k w (.slice (some ⟨g, 0, none⟩) n c) (ws ++ [m1, m2]) := by
  refine RowAt.of_owns (base := H) (e := e) ?_
  simpa [hn] using h
theorem RoomX.is {w : World} {H S R : Nat} {N : Int} {st tl wt : List Int} (h : RoomX w H S R N st tl wt) : RoomIs w R N st tl wt := by
  obtain ⟨ao, ca, bo, cb, co, cc, g1, e1, g2, e2, g3, e3, hh, hg, h1, h2, h3, _⟩ := h
  exact ⟨ao, ca, bo, cb, co, cc, g1, e1, g2, e2, g3, e3, hh, hg, row_marks h1 rfl, row_marks h2 rfl, row_marks h3 rfl⟩
theorem RoomX.below {w w' : World} {H S R : Nat} {N : Int} {st tl wt : List Int} (h : RoomX w H S R N st tl wt) (hb : Below w.heap.size w w') : RoomX w' H S R N st tl wt := by
  obtain ⟨ao, ca, bo, cb, co, cc, g1, e1, g2, e2, g3, e3, hh, hg, h1, h2, h3, k1, k2, k3, k4, k5, k6, k7⟩ := h
  exact ⟨ao, ca, bo, cb, co, cc, g1, e1, g2, e2, g3, e3, (hb.block R (lt_of_heap hh)).trans hh, hg.below hb, ownA_stay h1 (fun g hg => hb.block g (h1.lt g hg).2), ownA_stay h2 (fun g hg => hb.block g (h2.lt g hg).2), ownA_stay h3 (fun g hg => hb.block g (h3.lt g hg).2), k1, k2, k3, k4, k5, k6, Nat.le_trans k7 hb.size⟩
theorem own_off {w : World} {H R f g m c : Nat} {e : TypeId} {xs : List Value} {u : Value} (h : w.ownsRow H e 1 (.slice (some ⟨g, 0, none⟩) m c) m xs) (hg : g ≠ R) : (w.setCell ⟨R, f, none⟩ u).ownsRow H e 1 (.slice (some ⟨g, 0, none⟩) m c) m xs := ownA_stay h (fun g' hg' => by
  cases hg'
  simp [World.setCell, Array.getElem?_modify, Ne.symm hg])
theorem own_below {w w' : World} {H m : Nat} {e : TypeId} {v : Value} {xs : List Value} (h : w.ownsRow H e 1 v m xs) (hb : Below w.heap.size w w') : w'.ownsRow H e 1 v m xs := ownA_stay h (fun g hg => hb.block g (h.lt g hg).2)
theorem room_blk {X : World} {R : Nat} {N : Int} {a0 a1 a2 a3 a4 a5 a6 y7 y8 y9 y10 : Value} (hh : X.heap[R]? = some (.cells #[a0, a1, a2, a3, a4, a5, a6, y7, y8, y9, y10] 32 (0, 0))) (u8 u9 u10 : Value) :
    ((((X.setCell ⟨R, 7, none⟩ (.int .i64 N)).setCell ⟨R, 8, none⟩ u8).setCell ⟨R, 9, none⟩ u9).setCell ⟨R, 10, none⟩ u10).drew.heap[R]? = some (.cells #[a0, a1, a2, a3, a4, a5, a6, .int .i64 N, u8, u9, u10] 32 (0, 0)) := by
  have hw4 := heap_set (i := 10) (heap_set (i := 9) (heap_set (i := 8) (heap_set (i := 7) hh (.int .i64 N)) u8) u9) u10
  show ((((X.setCell ⟨R, 7, none⟩ (.int .i64 N)).setCell ⟨R, 8, none⟩ u8).setCell ⟨R, 9, none⟩ u9).setCell ⟨R, 10, none⟩ u10).heap[R]? = _
  rw [hw4]; simp
theorem room_bel {w wC X : World} {f : Nat} (u7 u8 u9 u10 : Value) (h : Below wC.heap.size wC X) : Below wC.heap.size wC ((((X.setCell ⟨wC.heap.size, 7, none⟩ u7).setCell ⟨wC.heap.size, 8, none⟩ u8).setCell ⟨wC.heap.size, 9, none⟩ u9).setCell ⟨wC.heap.size, 10, none⟩ u10).drew :=
  ((((h.setCell (p := ⟨wC.heap.size, 7, none⟩) (Nat.le_refl _) _).setCell (p := ⟨wC.heap.size, 8, none⟩) (Nat.le_refl _) _).setCell (p := ⟨wC.heap.size, 9, none⟩) (Nat.le_refl _) _).setCell (p := ⟨wC.heap.size, 10, none⟩) (Nat.le_refl _) _).drew
set_option maxRecDepth 100000 in
set_option maxHeartbeats 8000000 in
theorem room_anyX (N : Int) (va vb vc : Value) (st tl wt : List Int) (w : World) (hg : GIs w N va vb vc st tl wt) (hst : st.length * 8 ≤ 140737488351232) (hto : tl.length * 8 ≤ 140737488351232) (hwt : wt.length * 8 ≤ 140737488351232) :
    Calls Try.prog 13 #[gAgg N va vb vc] w fun e w' => ∃ R, e = .returned (.pointer (some ⟨R, 0, none⟩)) ∧ w.heap.size ≤ R ∧ RoomX w' w.heap.size w'.heap.size R N st tl wt ∧ Below w.heap.size w w' := by
  obtain ⟨i0, hi, hz0, hz1, hz2⟩ := info_parts Try.info3
  obtain ⟨j0, hj, hy0, hy1, hy2⟩ := info_parts Try.info48
  obtain ⟨ao, ca, rfl⟩ := hg.s.shape
  obtain ⟨bo, cb, rfl⟩ := hg.t.shape
  obtain ⟨co, cc, rfl⟩ := hg.u.shape
  have HG := hide hg
  clear hg
  unfold gAgg
  obtain ⟨c0, c1, c2, c3, hb1, hs1⟩ := boxed w (.int .i64 N) (.slice ao st.length ca) (.slice bo tl.length cb) (.slice co wt.length cc)
  have HCP := hide (copy_any N _ _ _ st tl wt _ (HG.out.below hb1) hst hto hwt)
  unfold gAgg at HCP
  have HB1 := hide hb1
  go_enter Try.func13, Try.ntmps13
  go_wp2_with fail
  generalize (w.alloc (.cells #[.int .i64 N, .slice ao st.length ca, .slice bo tl.length cb, .slice co wt.length cc] 25)) = w1 at c0 c1 c2 c3 hs1 HB1 HCP ⊢
  refine HCP.out.mono ?_
  rintro e wC ⟨a, b, c, rfl, hGC, hBC⟩
  obtain ⟨ao', ca', rfl⟩ := hGC.s.shape
  obtain ⟨bo', cb', rfl⟩ := hGC.t.shape
  obtain ⟨co', cc', rfl⟩ := hGC.u.shape
  have HGC := hide hGC
  have d1 := (below_cell (o := 1) hBC hs1).trans c1
  have d2 := (below_cell (o := 2) hBC hs1).trans c2
  have d3 := (below_cell (o := 3) hBC hs1).trans c3
  have d0 := (below_cell (o := 0) hBC hs1).trans c0
  have HBC := hide (below_on HB1.out hBC)
  have hsC : w.heap.size < wC.heap.size := by have := hBC.size; omega
  clear hGC hBC c0 c1 c2 c3 HB1 hb1 HCP hs1
  have HY : Hid (Below wC.heap.size wC (wC.alloc (.cells #[.int .i64 N, .slice ao' st.length ca', .slice bo' tl.length cb', .slice co' wt.length cc', .slice none 0 0, .slice none 0 0, .slice none 0 0, .int .i64 0, .slice none 0 0, .slice none 0 0, .slice none 0 0] 32)) ∧ (wC.alloc (.cells #[.int .i64 N, .slice ao' st.length ca', .slice bo' tl.length cb', .slice co' wt.length cc', .slice none 0 0, .slice none 0 0, .slice none 0 0, .int .i64 0, .slice none 0 0, .slice none 0 0, .slice none 0 0] 32)).heap[wC.heap.size]? = some (.cells #[.int .i64 N, .slice ao' st.length ca', .slice bo' tl.length cb', .slice co' wt.length cc', .slice none 0 0, .slice none 0 0, .slice none 0 0, .int .i64 0, .slice none 0 0, .slice none 0 0, .slice none 0 0] 32 (0, 0))) := ⟨(Below.refl _ _).alloc (Nat.le_refl _) _, heap_new _ _⟩
  have hAR : ¬ w.heap.size = wC.heap.size := by omega
  go_wp2_with (first
    | (at_builtin; refine wpList_fresh rfl (.tmp 9) (.tmp 11) 22 rfl .i64 3 i0 (.int .i64 0) 8 Try.underlying22 hi hz0 hz1 hz2 rfl (wC.heap.size + 1) _ (own_new _ 3 (wC.heap.size + 1) (by simp)) (by simp) _ st rfl rfl (HG.out.below (below_alloc (below_on HBC.out (HY.out.1)) _)).s (by omega) (by unfold maxLen; omega) ?_; intro v1 w1a hownA1 hbelA1)
    | (at_builtin; refine wpList_append_own _ rfl (.tmp 12) (.tmp 13) 22 rfl _ 3 i0 (.int .i64 0) 1 8 Try.underlying22 hi hz0 hz1 hz2 rfl (by decide) _ _ _ rfl (hownA1.alloc _) ⟨w1a.heap.size, 0, none⟩ 2 2 [.int .i64 (-71), .int .i64 (-72)] rfl rfl (two_at w1a _ _ _) (by simp [Value.oneCell']) (by unfold maxLen; omega) (by omega) (by have hq := hbelA1.size; simp at hq; simp; omega) ?_; intro u1 w1b hownB1 hgrowB1 hqB1; obtain ⟨g1, e1, rfl, ka1, kb1, kc1, hrow1, hbel1⟩ := marks_made hownA1 (below_on (below_alloc (Below.refl _ _) _) hbelA1) hownB1 hgrowB1; have hq1 := room_step (HY.out.1) (HY.out.2) hbel1; have s1 : w1b.cell? ⟨wC.heap.size, 4, none⟩ = some (.slice none 0 0) := cell_of hq1.2 rfl; have f1 : w1b.frozen? ⟨wC.heap.size, 4, none⟩ = false := free_of hq1.2 4; have nn1 : ¬ w.heap.size = w1b.heap.size := (by have hz := hq1.1.size; omega); have HQ1 := hide (room_set hq1.1 hq1.2 (Nat.le_refl _) 4 (.slice (some ⟨g1, 0, none⟩) (st.length + 2) e1)); have a2 : ∀ o, ((w1b.setCell ⟨wC.heap.size, 4, none⟩ (.slice (some ⟨g1, 0, none⟩) (st.length + 2) e1)).alloc o).cell? ⟨w.heap.size, 2, none⟩ = some (.slice bo tl.length cb) := (fun o => (below_cell (o := 2) (below_alloc HQ1.out.1 o) hsC).trans d2); have HROW1 := hide hrow1; have HOW1 := hide hownB1; have HBEL1 := hide hbel1; clear hownA1 hbelA1 hownB1 hgrowB1 hqB1 hq1 hrow1 hbel1)
    | (at_builtin; refine wpList_fresh rfl (.tmp 18) (.tmp 20) 22 rfl .i64 3 i0 (.int .i64 0) 8 Try.underlying22 hi hz0 hz1 hz2 rfl w1b.heap.size _ (own_new _ 3 w1b.heap.size (by simp)) (by simp) _ tl rfl rfl (HG.out.below (below_alloc (below_on HBC.out (HQ1.out.1)) _)).t (by omega) (by unfold maxLen; omega) ?_; intro v2 w2a hownA2 hbelA2)
    | (at_builtin; refine wpList_append_own _ rfl (.tmp 21) (.tmp 22) 22 rfl _ 3 i0 (.int .i64 0) 1 8 Try.underlying22 hi hz0 hz1 hz2 rfl (by decide) _ _ _ rfl (hownA2.alloc _) ⟨w2a.heap.size, 0, none⟩ 2 2 [.int .i64 (-73), .int .i64 (-74)] rfl rfl (two_at w2a _ _ _) (by simp [Value.oneCell']) (by unfold maxLen; omega) (by omega) (by have hq := hbelA2.size; simp at hq; simp; omega) ?_; intro u2 w2b hownB2 hgrowB2 hqB2; obtain ⟨g2, e2, rfl, ka2, kb2, kc2, hrow2, hbel2⟩ := marks_made hownA2 (below_on (below_alloc (Below.refl _ _) _) hbelA2) hownB2 hgrowB2; have hq2 := room_step (HQ1.out.1) (HQ1.out.2) hbel2; have s2 : w2b.cell? ⟨wC.heap.size, 5, none⟩ = some (.slice none 0 0) := cell_of hq2.2 rfl; have f2 : w2b.frozen? ⟨wC.heap.size, 5, none⟩ = false := free_of hq2.2 5; have nn2 : ¬ w.heap.size = w2b.heap.size := (by have hz := hq2.1.size; omega); have HQ2 := hide (room_set hq2.1 hq2.2 (Nat.le_refl _) 5 (.slice (some ⟨g2, 0, none⟩) (tl.length + 2) e2)); have a3 : ∀ o, ((w2b.setCell ⟨wC.heap.size, 5, none⟩ (.slice (some ⟨g2, 0, none⟩) (tl.length + 2) e2)).alloc o).cell? ⟨w.heap.size, 3, none⟩ = some (.slice co wt.length cc) := (fun o => (below_cell (o := 3) (below_alloc HQ2.out.1 o) hsC).trans d3); have HROW2 := hide hrow2; have HOW2 := hide hownB2; have HBEL2 := hide hbel2; clear hownA2 hbelA2 hownB2 hgrowB2 hqB2 hq2 hrow2 hbel2)
    | (at_builtin; refine wpList_fresh rfl (.tmp 27) (.tmp 29) 23 rfl .u64 48 j0 (.int .u64 0) 8 Try.underlying23 hj hy0 hy1 hy2 rfl w2b.heap.size _ (own_new _ 48 w2b.heap.size (by simp)) (by simp) _ wt rfl rfl (HG.out.below (below_alloc (below_on HBC.out (HQ2.out.1)) _)).u (by omega) (by unfold maxLen; omega) ?_; intro v3 w3a hownA3 hbelA3)
    | (at_builtin; refine wpList_append_own _ rfl (.tmp 30) (.tmp 31) 23 rfl _ 48 j0 (.int .u64 0) 1 8 Try.underlying23 hj hy0 hy1 hy2 rfl (by decide) _ _ _ rfl (hownA3.alloc _) ⟨w3a.heap.size, 0, none⟩ 2 2 [.int .u64 75, .int .u64 76] rfl rfl (two_at w3a _ _ _) (by simp [Value.oneCell']) (by unfold maxLen; omega) (by omega) (by have hq := hbelA3.size; simp at hq; simp; omega) ?_; intro u3 w3b hownB3 hgrowB3 hqB3; obtain ⟨g3, e3, rfl, ka3, kb3, kc3, hrow3, hbel3⟩ := marks_made hownA3 (below_on (below_alloc (Below.refl _ _) _) hbelA3) hownB3 hgrowB3; have hq3 := room_step (HQ2.out.1) (HQ2.out.2) hbel3; have s3 : w3b.cell? ⟨wC.heap.size, 6, none⟩ = some (.slice none 0 0) := cell_of hq3.2 rfl; have f3 : w3b.frozen? ⟨wC.heap.size, 6, none⟩ = false := free_of hq3.2 6; have nn3 : ¬ w.heap.size = w3b.heap.size := (by have hz := hq3.1.size; omega); have HQ3 := hide (room_set hq3.1 hq3.2 (Nat.le_refl _) 6 (.slice (some ⟨g3, 0, none⟩) (wt.length + 2) e3)); have HROW3 := hide hrow3; have HOW3 := hide hownB3; have HBEL3 := hide hbel3; clear hownA3 hbelA3 hownB3 hgrowB3 hqB3 hq3 hrow3 hbel3)
    | fail)
  have hblk : (w3b.setCell ⟨wC.heap.size, 6, none⟩ (.slice (some ⟨g3, 0, none⟩) (wt.length + 2) e3)).heap[wC.heap.size]? = some (.cells #[.int .i64 N, .slice ao' st.length ca', .slice bo' tl.length cb', .slice co' wt.length cc', .slice (some ⟨g1, 0, none⟩) (st.length + 2) e1, .slice (some ⟨g2, 0, none⟩) (tl.length + 2) e2, .slice (some ⟨g3, 0, none⟩) (wt.length + 2) e3, .int .i64 0, .slice none 0 0, .slice none 0 0, .slice none 0 0] 32 (0, 0)) := by
    rw [HQ3.out.2]; simp
  have hrows := room_rows (u3 := .slice (some ⟨g3, 0, none⟩) (wt.length + 2) e3) HBEL2.out HBEL3.out HROW1.out HROW2.out HROW3.out (by have := HBC.out.size; simp at kc1; omega) (by have hq := lt_of_heap HQ1.out.2; omega) (by have hq := lt_of_heap HQ2.out.2; omega)
  have HX := hide (And.intro HQ3.out.1 hblk)
  have hg1 : wC.heap.size < g1 := by simp at kc1; omega
  have hg2 : wC.heap.size < g2 := by have hq := lt_of_heap HQ1.out.2; omega
  have hg3 : wC.heap.size < g3 := by have hq := lt_of_heap HQ2.out.2; omega
  have HRS := hide hrows
  have HOX : Hid ((w3b.setCell ⟨wC.heap.size, 6, none⟩ (.slice (some ⟨g3, 0, none⟩) (wt.length + 2) e3)).ownsRow w.heap.size 3 1 (.slice (some ⟨g1, 0, none⟩) (st.length + 2) e1) (st.length + 2) (st.map (Value.int .i64) ++ [.int .i64 (-71), .int .i64 (-72)]) ∧ (w3b.setCell ⟨wC.heap.size, 6, none⟩ (.slice (some ⟨g3, 0, none⟩) (wt.length + 2) e3)).ownsRow w.heap.size 3 1 (.slice (some ⟨g2, 0, none⟩) (tl.length + 2) e2) (tl.length + 2) (tl.map (Value.int .i64) ++ [.int .i64 (-73), .int .i64 (-74)]) ∧ (w3b.setCell ⟨wC.heap.size, 6, none⟩ (.slice (some ⟨g3, 0, none⟩) (wt.length + 2) e3)).ownsRow w.heap.size 48 1 (.slice (some ⟨g3, 0, none⟩) (wt.length + 2) e3) (wt.length + 2) (wt.map (Value.int .u64) ++ [.int .u64 75, .int .u64 76]) ∧ g1 ≠ g2) := by
    have k1 := (HOW1.out.lt g1 rfl).2
    have k2 := kc2
    have hs1 := HBEL1.out.size
    have hs2 := HBEL2.out.size
    have hwC := HBC.out.size
    have q1 := own_off (own_below (own_off (own_below (own_off HOW1.out (by omega) (R := wC.heap.size) (f := 4) (u := .slice (some ⟨g1, 0, none⟩) (st.length + 2) e1)) HBEL2.out) (by omega) (R := wC.heap.size) (f := 5) (u := .slice (some ⟨g2, 0, none⟩) (tl.length + 2) e2)) HBEL3.out) (by omega) (R := wC.heap.size) (f := 6) (u := .slice (some ⟨g3, 0, none⟩) (wt.length + 2) e3)
    have q2 := own_off (own_below (own_off HOW2.out (by omega) (R := wC.heap.size) (f := 5) (u := .slice (some ⟨g2, 0, none⟩) (tl.length + 2) e2)) HBEL3.out) (by omega) (R := wC.heap.size) (f := 6) (u := .slice (some ⟨g3, 0, none⟩) (wt.length + 2) e3)
    have q3 := own_off HOW3.out (by omega) (R := wC.heap.size) (f := 6) (u := .slice (some ⟨g3, 0, none⟩) (wt.length + 2) e3)
    have hb1 : w.heap.size ≤ wC.heap.size + 1 := by omega
    have hsz1 : (w1b.setCell ⟨wC.heap.size, 4, none⟩ (.slice (some ⟨g1, 0, none⟩) (st.length + 2) e1)).heap.size = w1b.heap.size := by simp [World.setCell]
    have hsz2 : (w2b.setCell ⟨wC.heap.size, 5, none⟩ (.slice (some ⟨g2, 0, none⟩) (tl.length + 2) e2)).heap.size = w2b.heap.size := by simp [World.setCell]
    refine ⟨ownA_base q1 (by simp at hs1; first | omega | simp; omega), ownA_base q2 (by simp at hs1; omega), ownA_base q3 (by simp at hs1; omega), by omega⟩
  clear hblk hrows s1 s2 s3 f1 f2 f3 a2 a3 HROW1 HROW2 HROW3 HBEL1 HBEL2 HBEL3 HQ1 HQ2 HQ3 HOW1 HOW2 HOW3 nn1 nn2 nn3
  generalize (w3b.setCell ⟨wC.heap.size, 6, none⟩ (.slice (some ⟨g3, 0, none⟩) (wt.length + 2) e3)) = X at HX HRS HOX ⊢
  have HXB := hide (below_on HBC.out HX.out.1)
  have x0 := (below_cell (o := 0) HX.out.1 hsC).trans d0
  have x1 := (below_cell (o := 1) HX.out.1 hsC).trans d1
  have x2 := (below_cell (o := 2) HX.out.1 hsC).trans d2
  have x3 := (below_cell (o := 3) HX.out.1 hsC).trans d3
  have y4 : X.cell? ⟨wC.heap.size, 4, none⟩ = some (.slice (some ⟨g1, 0, none⟩) (st.length + 2) e1) := cell_of HX.out.2 rfl
  have y5 : X.cell? ⟨wC.heap.size, 5, none⟩ = some (.slice (some ⟨g2, 0, none⟩) (tl.length + 2) e2) := cell_of HX.out.2 rfl
  have y6 : X.cell? ⟨wC.heap.size, 6, none⟩ = some (.slice (some ⟨g3, 0, none⟩) (wt.length + 2) e3) := cell_of HX.out.2 rfl
  have y7 : X.cell? ⟨wC.heap.size, 7, none⟩ = some (.int .i64 0) := cell_of HX.out.2 rfl
  have y8 : X.cell? ⟨wC.heap.size, 8, none⟩ = some (.slice none 0 0) := cell_of HX.out.2 rfl
  have y9 : X.cell? ⟨wC.heap.size, 9, none⟩ = some (.slice none 0 0) := cell_of HX.out.2 rfl
  have y10 : X.cell? ⟨wC.heap.size, 10, none⟩ = some (.slice none 0 0) := cell_of HX.out.2 rfl
  have q7 := free_of HX.out.2 7
  have q8 := free_of HX.out.2 8
  have q9 := free_of HX.out.2 9
  have q10 := free_of HX.out.2 10
  have l1 : (st.length : Int) ≤ (e1 : Int) := by omega
  have l2 : (tl.length : Int) ≤ (e2 : Int) := by omega
  have l3 : (wt.length : Int) ≤ (e3 : Int) := by omega
  clear d0 d1 d2 d3
  have HLAST := hide (room_last (X := X) (N := N) HXB.out (Nat.le_of_lt hsC) HX.out.2 (HGC.out.below HX.out.1) HGC.out HX.out.1 HRS.out.1 HRS.out.2.1 HRS.out.2.2 (by omega) (by omega) (by omega))
  have hg1' : ¬ g1 = wC.heap.size := by omega
  have hg2' : ¬ g2 = wC.heap.size := by omega
  have hg3' : ¬ g3 = wC.heap.size := by omega
  have HEND : Hid (∀ (u7 u8 u9 u10 : Value), let wf := ((((X.setCell ⟨wC.heap.size, 7, none⟩ u7).setCell ⟨wC.heap.size, 8, none⟩ u8).setCell ⟨wC.heap.size, 9, none⟩ u9).setCell ⟨wC.heap.size, 10, none⟩ u10).drew; wf.ownsRow w.heap.size 3 1 (.slice (some ⟨g1, 0, none⟩) (st.length + 2) e1) (st.length + 2) (st.map (Value.int .i64) ++ [.int .i64 (-71), .int .i64 (-72)]) ∧ wf.ownsRow w.heap.size 3 1 (.slice (some ⟨g2, 0, none⟩) (tl.length + 2) e2) (tl.length + 2) (tl.map (Value.int .i64) ++ [.int .i64 (-73), .int .i64 (-74)]) ∧ wf.ownsRow w.heap.size 48 1 (.slice (some ⟨g3, 0, none⟩) (wt.length + 2) e3) (wt.length + 2) (wt.map (Value.int .u64) ++ [.int .u64 75, .int .u64 76])) := fun u7 u8 u9 u10 =>
    ⟨own_off (own_off (own_off (own_off HOX.out.1 hg1') hg1') hg1') hg1', own_off (own_off (own_off (own_off HOX.out.2.1 hg2') hg2') hg2') hg2', own_off (own_off (own_off (own_off HOX.out.2.2.1 hg3') hg3') hg3') hg3'⟩
  have HLA2 := hide (room_blk (X := X) (N := N) HX.out.2 (.slice (some ⟨g1, 0, none⟩) st.length e1) (.slice (some ⟨g2, 0, none⟩) tl.length e2) (.slice (some ⟨g3, 0, none⟩) wt.length e3))
  go_region
  go_wp2
  go_ret
  have hE := HEND.out (.int .i64 N) (.slice (some ⟨g1, 0, none⟩) st.length e1) (.slice (some ⟨g2, 0, none⟩) tl.length e2) (.slice (some ⟨g3, 0, none⟩) wt.length e3)
  have hG := HGC.out.below (room_bel (w := w) (f := 0) (.int .i64 N) (.slice (some ⟨g1, 0, none⟩) st.length e1) (.slice (some ⟨g2, 0, none⟩) tl.length e2) (.slice (some ⟨g3, 0, none⟩) wt.length e3) HX.out.1)
  exact ⟨wC.heap.size, rfl, Nat.le_of_lt hsC, ⟨ao', ca', bo', cb', co', cc', g1, e1, g2, e2, g3, e3, HLA2.out, hG, hE.1, hE.2.1, hE.2.2, HOX.out.2.2.2, Nat.le_of_lt hsC, lt_of_heap HLA2.out, (hE.1.lt g1 rfl).2, (hE.2.1.lt g2 rfl).2, (hE.2.2.lt g3 rfl).2, Nat.le_refl _⟩, HLAST.out.2⟩
end Go.Proofs.Ytmagigmcbegmiaa

/- The reference's Copy: its lists are new. -/
namespace Go.Proofs.Ytmagigmcbegmiaa
open Go.RowKit Go.Lib
set_option linter.unusedVariables false
/-- A list's block has that type, if it has a cell. -/
def TyB (w : World) (ao : Option Addr) (e : TypeId) (n : Nat) : Prop := ∀ a, ao = some a → 0 < n → ∃ cur, w.heap[a.block]? = some (.cells cur e (0, 0))
theorem TyB.below {w w' : World} {ao : Option Addr} {e : TypeId} {n : Nat} (h : TyB w ao e n) (hb : Below w.heap.size w w') : TyB w' ao e n := fun a ha hn => let ⟨c, hc⟩ := h a ha hn; ⟨c, (hb.block _ (lt_of_heap hc)).trans hc⟩
theorem TyB.off {w : World} {ao : Option Addr} {e : TypeId} {n R f : Nat} {u : Value} (h : TyB w ao e n) (hR : ∀ a, ao = some a → ¬ a.block = R) : TyB (w.setCell ⟨R, f, none⟩ u) ao e n := fun a ha hn => let ⟨c, hc⟩ := h a ha hn; ⟨c, (Below.heap_setCell _ _ _ _ (hR a ha)).trans hc⟩
/-- Blocks from T on that are no rows of lists and no book stay. -/
def KeepT (T : Nat) (w w' : World) : Prop := ∀ (b : Nat) (cur : Array Value) (t : TypeId), T ≤ b → w.heap[b]? = some (.cells cur t (0, 0)) → t ≠ 22 → t ≠ 23 → t ≠ 45 → t ≠ 56 → w'.heap[b]? = w.heap[b]?
theorem RowAt.keepT {k : IntKind} {w w' : World} {ao : Option Addr} {n c T : Nat} {e : TypeId} {xs : List Int} (h : RowAt k w (.slice ao n c) xs) (ht : TyB w ao e n) (h1 : e ≠ 22) (h2 : e ≠ 23) (h4 : e ≠ 45) (h3 : e ≠ 56) (hk : KeepT T w w') (hT : ∀ a, ao = some a → T ≤ a.block) : RowAt k w' (.slice ao n c) xs := by
  obtain ⟨ao', c', he, q1, q2, q3, q4⟩ := h
  simp only [Value.slice.injEq] at he
  obtain ⟨rfl, rfl, rfl⟩ := he
  refine ⟨ao, c, rfl, q1, q2, q3, fun a ha i hi => ?_⟩
  obtain ⟨cur, hc⟩ := ht a ha (by omega)
  have e1 : (a.add i).block = a.block := by unfold Addr.add; split <;> rfl
  rw [World.cell?, e1, hk _ _ _ (hT a ha) hc h1 h2 h4 h3]
  have := q4 a ha i hi
  rw [World.cell?, e1] at this
  exact this
theorem run_freshT {P : Program} {w : World} (k : IntKind) (t ty e : TypeId) (i : TypeInfo) (z : Value) (bytes : Nat) (ht : P.underlying t = some (.slice e)) (hi : P.info? e = some i) (hz : i.zero = some z)
    (hsize : i.size = 1) (hby : i.bytes = bytes) (hzs : z.cells.size = 1) (B : Nat) (xv : Value) (xs : List Int) (hrow : RowAt k w xv xs) (hb : xs.length * bytes ≤ 140737488355328) (h63 : xs.length ≤ maxLen) :
    ∃ ao c w', (Builtin.append_ #[t, t] ty #[.slice (some ⟨B, 0, none⟩) 0 0, xv]).run P w = .ok (.slice ao xs.length c) w' ∧ RowAt k w' (.slice ao xs.length c) xs ∧ (∀ a, ao = some a → a.block = B ∨ w.heap.size ≤ a.block) ∧ TyB w' ao e xs.length ∧ Below w.heap.size w w' := by
  obtain ⟨xo, c, rfl, h1, h2, h3, h4⟩ := hrow
  rcases Nat.eq_zero_or_pos xs.length with h0 | h0
  · obtain rfl : xs = [] := List.eq_nil_of_length_eq_zero h0
    refine ⟨some ⟨B, 0, none⟩, 0, w, ?_, ⟨_, 0, rfl, by simp, by omega, (fun h => by cases h), fun a _ i hi => absurd hi (Nat.not_lt_zero _)⟩, fun a ha => by cases ha; exact .inl rfl, fun a ha hn => absurd hn (by simp), Below.refl _ _⟩
    have hsrc : Src P i.size t (.slice xo 0 c) 0 [] w := by
      cases xo with
      | none => exact Src.ofNil w ht c
      | some a => exact Src.ofSlice w ht a 0 c [] (by simp) (fun j u h => by simp at h) (by simp)
    exact run_append_nothing w t t ty e i ht hi (some ⟨B, 0, none⟩) 0 0 (Nat.le_refl _) _ hsrc
  · cases xo with
    | none => have := h3 rfl; omega
    | some a =>
      obtain ⟨v', w', hrun, hown, hgrow⟩ := run_append_arg_grows (P := P) (w := w) t ty e i z 1 bytes ht hi hz hsize hby hzs (by decide) ⟨B, 0, none⟩ 0 0 [] rfl (fun j u h => by simp at h) a xs.length c (xs.map (Value.int k)) (by simp) (cells_of_row h4) (by omega) (by omega) (by rw [Nat.zero_add]; exact hb)
      simp only [Nat.zero_add, List.nil_append] at hown
      have hbel : Below w.heap.size w w' := (Below.refl _ _).grown hgrow (Nat.le_refl _) (by intro j hj; cases hj)
      have hr := RowAt.of_owns hown
      obtain ⟨ao, c', rfl, _⟩ := id hr
      obtain ⟨_, ⟨he, _⟩ | ⟨g, cap, cur, he, hg, hcur, _⟩⟩ := hown
      · simp only [Value.slice.injEq] at he
        refine ⟨ao, c', w', hrun, hr, fun b hb => ?_, fun b hb hn => ?_, hbel⟩ <;> (rw [he.1] at hb; cases hb)
      · simp only [Value.slice.injEq] at he
        refine ⟨ao, c', w', hrun, hr, fun b hb => ?_, fun b hb hn => ?_, hbel⟩
        · rw [he.1] at hb; cases hb; exact .inr hg
        · rw [he.1] at hb; cases hb; exact ⟨cur, hcur⟩
theorem step_freshT {P : Program} {ops : Array Oper} {o : Oper} {a : Act} {w : World} {K : Act → World → Prop} {Q : Exit → Act → World → Prop} {E : Prop}
    (hg : o.guard = none) (s x : Operand) (t : TypeId) (hop : o.op = Op.call { callee := Callee.builtin Builtin.append, args := #[s, x], argTypes := #[t, t] })
    (k : IntKind) (e : TypeId) (i : TypeInfo) (z : Value) (bytes : Nat) (ht : P.underlying t = some (.slice e)) (hi : P.info? e = some i) (hz : i.zero = some z)
    (hsize : i.size = 1) (hby : i.bytes = bytes) (hzs : z.cells.size = 1) (B : Nat) (xs : List Int) (hs : a.eval s = .slice (some ⟨B, 0, none⟩) 0 0) (hrow : RowAt k w (a.eval x) xs) (hb : xs.length * bytes ≤ 140737488355328) (h63 : xs.length ≤ maxLen)
    (hK : ∀ ao c w', RowAt k w' (.slice ao xs.length c) xs → (∀ a, ao = some a → a.block = B ∨ w.heap.size ≤ a.block) → TyB w' ao e xs.length → Below w.heap.size w w' → K (a.put o.dst (.slice ao xs.length c)) w') :
    if Region.wanted o (yielded ops a.tmps) = true then Oper.wp P o a w K Q else E := by
  have hw : Region.wanted o (yielded ops a.tmps) = true := by simp [Region.wanted, hg]
  rw [if_pos hw]
  obtain ⟨ao, c, w', hrun, r1, r2, r4, r3⟩ := run_freshT (P := P) k t o.type e i z bytes ht hi hz hsize hby hzs B (a.eval x) xs hrow hb h63
  obtain ⟨xo, xc, hxv, _⟩ := hrow
  rw [hxv] at hrun
  unfold Oper.wp
  simp [execOp, hop, resolve, invoke, builtin, hs, hxv, hrun, Result.andThen]
  exact hK ao c w' r1 r2 r4 r3
set_option maxRecDepth 100000 in
set_option maxHeartbeats 8000000 in
theorem copy_anyX (N : Int) (va vb vc : Value) (st tl wt : List Int) (w : World) (hg : GIs w N va vb vc st tl wt) (hst : st.length * 8 ≤ 140737488351232) (hto : tl.length * 8 ≤ 140737488351232) (hwt : wt.length * 8 ≤ 140737488351232) :
    Calls Try.prog 42 #[gAgg N va vb vc] w fun e w' => ∃ ao1 c1 ao2 c2 ao3 c3, e = .returned (gAgg N (.slice ao1 st.length c1) (.slice ao2 tl.length c2) (.slice ao3 wt.length c3)) ∧ GIs w' N (.slice ao1 st.length c1) (.slice ao2 tl.length c2) (.slice ao3 wt.length c3) st tl wt ∧ Below w.heap.size w w' ∧ (∀ a, ao1 = some a → w.heap.size < a.block) ∧ (∀ a, ao2 = some a → w.heap.size < a.block) ∧ (∀ a, ao3 = some a → w.heap.size < a.block) ∧ TyB w' ao1 3 st.length ∧ TyB w' ao2 3 tl.length ∧ TyB w' ao3 48 wt.length := by
  obtain ⟨i0, hi, hz0, hz1, hz2⟩ := info_parts Try.info3
  obtain ⟨j0, hj, hy0, hy1, hy2⟩ := info_parts Try.info48
  obtain ⟨ao, ca, rfl⟩ := hg.s.shape
  obtain ⟨bo, cb, rfl⟩ := hg.t.shape
  obtain ⟨co, cc, rfl⟩ := hg.u.shape
  have HG := hide hg
  clear hg
  unfold gAgg
  go_enter Try.func42, Try.ntmps42
  go_wp2_with fail
  obtain ⟨W, hW⟩ : ∃ W, W = (w.alloc (.cells #[.int .i64 N, .slice ao st.length ca, .slice bo tl.length cb, .slice co wt.length cc] 25)).alloc (.cells #[.int .i64 0, .slice none 0 0, .slice none 0 0, .slice none 0 0] 25) := ⟨_, rfl⟩
  have hbW : Below w.heap.size w W := by rw [hW]; exact below_alloc (below_alloc (Below.refl _ _) _) _
  have hA : W.heap[w.heap.size]? = some (.cells #[.int .i64 N, .slice ao st.length ca, .slice bo tl.length cb, .slice co wt.length cc] 25 (0, 0)) := by
    rw [hW]
    exact (((Below.refl _ _).alloc (Nat.le_refl _) _).block w.heap.size (by simp)).trans (heap_new w _)
  have hB : W.heap[w.heap.size + 1]? = some (.cells #[.int .i64 0, .slice none 0 0, .slice none 0 0, .slice none 0 0] 25 (0, 0)) := by
    rw [hW]
    have := heap_new (w.alloc (.cells #[.int .i64 N, .slice ao st.length ca, .slice bo tl.length cb, .slice co wt.length cc] 25)) (.cells #[.int .i64 0, .slice none 0 0, .slice none 0 0, .slice none 0 0] 25)
    simpa using this
  rw [← hW]
  have HA := hide hA; have HB := hide hB; have HBW := hide hbW
  have HGW := hide (HG.out.below hbW)
  obtain ⟨⟨c0, c1, c2, c3⟩, _⟩ := two_keep hA hB (Below.refl _ W)
  have HR := hide (Below.refl W.heap.size W)
  have hWs : w.heap.size + 1 < W.heap.size := lt_of_heap hB
  have m0 : ¬ w.heap.size = W.heap.size := by omega
  have m1 : ¬ w.heap.size = W.heap.size + 1 := by omega
  have m2 : ¬ w.heap.size = W.heap.size + 1 + 1 := by omega
  have m2' : ¬ w.heap.size = W.heap.size + 2 := by omega
  clear hA hB hbW hW
  have t0 : ∀ o1 o2 o3, (((W.alloc o1).alloc o2).alloc o3).drew.cell? ⟨w.heap.size, 0, none⟩ = some (.int .i64 N) := fun o1 o2 o3 => (two_keep HA.out HB.out (below_drew (below_alloc (below_alloc (below_alloc HR.out _) _) _))).1.1
  have t1 : ∀ o1 o2 o3, (((W.alloc o1).alloc o2).alloc o3).drew.cell? ⟨w.heap.size, 1, none⟩ = some (.slice ao st.length ca) := fun o1 o2 o3 => (two_keep HA.out HB.out (below_drew (below_alloc (below_alloc (below_alloc HR.out _) _) _))).1.2.1
  have t2 : ∀ o1 o2 o3, (((W.alloc o1).alloc o2).alloc o3).drew.cell? ⟨w.heap.size, 2, none⟩ = some (.slice bo tl.length cb) := fun o1 o2 o3 => (two_keep HA.out HB.out (below_drew (below_alloc (below_alloc (below_alloc HR.out _) _) _))).1.2.2.1
  have t3 : ∀ o1 o2 o3, (((W.alloc o1).alloc o2).alloc o3).drew.cell? ⟨w.heap.size, 3, none⟩ = some (.slice co wt.length cc) := fun o1 o2 o3 => (two_keep HA.out HB.out (below_drew (below_alloc (below_alloc (below_alloc HR.out _) _) _))).1.2.2.2
  refine wp_region_noPanic ?_
  go_region_held3 (fun x => x.cell? ⟨w.heap.size, 0, none⟩ = some (.int .i64 N) ∧ x.cell? ⟨w.heap.size, 1, none⟩ = some (.slice ao st.length ca) ∧ x.cell? ⟨w.heap.size, 2, none⟩ = some (.slice bo tl.length cb) ∧ x.cell? ⟨w.heap.size, 3, none⟩ = some (.slice co wt.length cc)) (first | go_keep | exact ⟨z0, z1, z2, z3⟩ | exact (two_keep HA.out HB.out (below_alloc (HR.out) _)).1 | exact (two_keep HA.out HB.out (below_drew (below_alloc (HR.out) _))).1 | exact (two_keep HA.out HB.out (below_alloc (below_alloc (HR.out) _) _)).1 | exact (two_keep HA.out HB.out (below_drew (below_alloc (below_alloc (HR.out) _) _))).1 | exact (two_keep HA.out HB.out (below_alloc (below_alloc (below_alloc (HR.out) _) _) _)).1 | exact (two_keep HA.out HB.out (below_drew (below_alloc (below_alloc (below_alloc (HR.out) _) _) _))).1 | exact (two_keep HA.out HB.out (below_alloc (HB1.out) _)).1 | exact (two_keep HA.out HB.out (below_drew (below_alloc (HB1.out) _))).1 | exact (two_keep HA.out HB.out (below_alloc (below_alloc (HB1.out) _) _)).1 | exact (two_keep HA.out HB.out (below_drew (below_alloc (below_alloc (HB1.out) _) _))).1 | exact (two_keep HA.out HB.out (below_alloc (HB2.out) _)).1 | exact (two_keep HA.out HB.out (below_drew (below_alloc (HB2.out) _))).1)
    (first
      | (refine step_freshT (by rfl) (.tmp 5) (.tmp 7) 22 (by rfl) .i64 3 i0 (.int .i64 0) 8 Try.underlying22 hi hz0 hz1 hz2 rfl _ st (by rfl) (HGW.out.below (by first | exact below_alloc (HR.out) _ | exact below_alloc (below_alloc (HR.out) _) _ | exact below_alloc (below_alloc (below_alloc (HR.out) _) _) _ | exact below_drew (below_alloc (HR.out) _) | exact below_drew (below_alloc (below_alloc (HR.out) _) _) | exact below_drew (below_alloc (below_alloc (below_alloc (HR.out) _) _) _))).s (by omega) (by unfold maxLen; omega) ?_; intro ao1 cp1 w1 hr1 hf1 hty1 hbel; have HTY1 := hide hty1; clear hty1; have hB1 := below_on (a := W) (by first | exact below_alloc (HR.out) _ | exact below_alloc (below_alloc (HR.out) _) _ | exact below_alloc (below_alloc (below_alloc (HR.out) _) _) _ | exact below_drew (below_alloc (HR.out) _) | exact below_drew (below_alloc (below_alloc (HR.out) _) _) | exact below_drew (below_alloc (below_alloc (below_alloc (HR.out) _) _) _)) hbel; obtain ⟨⟨z0, z1, z2, z3⟩, zB⟩ := two_keep HA.out HB.out hB1; have o1a : ¬ w.heap.size = w1.heap.size := (by have hq := hB1.size; omega); have o1b : ¬ w.heap.size = w1.heap.size + 1 := (by have hq := hB1.size; omega); have hn1 : ∀ a, ao1 = some a → w.heap.size + 1 < a.block := (by intro a ha; rcases hf1 a ha with h | h <;> first | omega | (simp at h; omega)); have HN1 := hide hn1; clear hn1; have HB1 := hide hB1; have HR1 := hide hr1; have HZ := hide zB; have e0 : w1.cell? ⟨w.heap.size + 1, 0, none⟩ = some (.int .i64 0) := cell_of HZ.out rfl; have e1 : w1.cell? ⟨w.heap.size + 1, 1, none⟩ = some (.slice none 0 0) := cell_of HZ.out rfl; have e2 : w1.cell? ⟨w.heap.size + 1, 2, none⟩ = some (.slice none 0 0) := cell_of HZ.out rfl; have e3 : w1.cell? ⟨w.heap.size + 1, 3, none⟩ = some (.slice none 0 0) := cell_of HZ.out rfl; have q0 := free_of HZ.out 0; have q1 := free_of HZ.out 1; have q2 := free_of HZ.out 2; have q3 := free_of HZ.out 3; clear hr1 hf1 hbel hB1 zB)
      | (refine step_freshT (by rfl) (.tmp 9) (.tmp 11) 22 (by rfl) .i64 3 i0 (.int .i64 0) 8 Try.underlying22 hi hz0 hz1 hz2 rfl _ tl (by rfl) (HGW.out.below (by first | exact HB1.out | exact below_alloc (HB1.out) _ | exact below_alloc (below_alloc (HB1.out) _) _ | exact below_drew (HB1.out) | exact below_drew (below_alloc (HB1.out) _) | exact below_drew (below_alloc (below_alloc (HB1.out) _) _))).t (by omega) (by unfold maxLen; omega) ?_; intro ao2 cp2 w2 hr2 hf2 hty2 hbel; have HTY2 := hide hty2; clear hty2; have hB2 := below_on (a := W) (by first | exact HB1.out | exact below_alloc (HB1.out) _ | exact below_alloc (below_alloc (HB1.out) _) _ | exact below_drew (HB1.out) | exact below_drew (below_alloc (HB1.out) _) | exact below_drew (below_alloc (below_alloc (HB1.out) _) _)) hbel; have hS2 : Below w1.heap.size w1 w2 := below_on (by first | exact Below.refl _ _ | exact below_alloc (Below.refl _ _) _ | exact below_alloc (below_alloc (Below.refl _ _) _) _ | exact below_drew (Below.refl _ _) | exact below_drew (below_alloc (Below.refl _ _) _) | exact below_drew (below_alloc (below_alloc (Below.refl _ _) _) _)) hbel; have HS2 := hide hS2; clear hS2; obtain ⟨⟨z0, z1, z2, z3⟩, zB⟩ := two_keep HA.out HB.out hB2; have o2a : ¬ w.heap.size = w2.heap.size := (by have hq := hB2.size; omega); have o2b : ¬ w.heap.size = w2.heap.size + 1 := (by have hq := hB2.size; omega); have p2 := HB1.out.size; have hn2 : ∀ a, ao2 = some a → w.heap.size + 1 < a.block := (by intro a ha; rcases hf2 a ha with h | h <;> first | omega | (simp at h; omega)); have HN2 := hide hn2; clear hn2; have HB2 := hide hB2; have HR2 := hide hr2; have HZ := hide zB; have e0 : w2.cell? ⟨w.heap.size + 1, 0, none⟩ = some (.int .i64 0) := cell_of HZ.out rfl; have e1 : w2.cell? ⟨w.heap.size + 1, 1, none⟩ = some (.slice none 0 0) := cell_of HZ.out rfl; have e2 : w2.cell? ⟨w.heap.size + 1, 2, none⟩ = some (.slice none 0 0) := cell_of HZ.out rfl; have e3 : w2.cell? ⟨w.heap.size + 1, 3, none⟩ = some (.slice none 0 0) := cell_of HZ.out rfl; have q0 := free_of HZ.out 0; have q1 := free_of HZ.out 1; have q2 := free_of HZ.out 2; have q3 := free_of HZ.out 3; clear hr2 hf2 hbel hB2 zB)
      | (refine step_freshT (by rfl) (.tmp 13) (.tmp 15) 23 (by rfl) .u64 48 j0 (.int .u64 0) 8 Try.underlying23 hj hy0 hy1 hy2 rfl _ wt (by rfl) (HGW.out.below (by first | exact HB2.out | exact below_alloc (HB2.out) _ | exact below_drew (HB2.out) | exact below_drew (below_alloc (HB2.out) _))).u (by omega) (by unfold maxLen; omega) ?_; intro ao3 cp3 w3 hr3 hf3 hty3 hbel; have HTY3 := hide hty3; clear hty3; have hB3 := below_on (a := W) (by first | exact HB2.out | exact below_alloc (HB2.out) _ | exact below_drew (HB2.out) | exact below_drew (below_alloc (HB2.out) _)) hbel; have hS3 : Below w2.heap.size w2 w3 := below_on (by first | exact Below.refl _ _ | exact below_alloc (Below.refl _ _) _ | exact below_drew (Below.refl _ _) | exact below_drew (below_alloc (Below.refl _ _) _)) hbel; have HS3 := hide hS3; clear hS3; obtain ⟨⟨z0, z1, z2, z3⟩, zB⟩ := two_keep HA.out HB.out hB3; have o3a : ¬ w.heap.size = w3.heap.size := (by have hq := hB3.size; omega); have o3b : ¬ w.heap.size = w3.heap.size + 1 := (by have hq := hB3.size; omega); have p3 := HB2.out.size; have hn3 : ∀ a, ao3 = some a → w.heap.size + 1 < a.block := (by intro a ha; rcases hf3 a ha with h | h <;> first | omega | (simp at h; omega)); have HN3 := hide hn3; clear hn3; have HB3 := hide hB3; have HR3 := hide hr3; have HZ := hide zB; have e0 : w3.cell? ⟨w.heap.size + 1, 0, none⟩ = some (.int .i64 0) := cell_of HZ.out rfl; have e1 : w3.cell? ⟨w.heap.size + 1, 1, none⟩ = some (.slice none 0 0) := cell_of HZ.out rfl; have e2 : w3.cell? ⟨w.heap.size + 1, 2, none⟩ = some (.slice none 0 0) := cell_of HZ.out rfl; have e3 : w3.cell? ⟨w.heap.size + 1, 3, none⟩ = some (.slice none 0 0) := cell_of HZ.out rfl; have q0 := free_of HZ.out 0; have q1 := free_of HZ.out 1; have q2 := free_of HZ.out 2; have q3 := free_of HZ.out 3; clear hr3 hf3 hbel hB3 zB))
  all_goals
    refine NoPanic.normal ?_
    obtain ⟨hwf, hG, hL⟩ := copy_end HBW.out HB3.out HZ.out ((HR1.out.below HS2.out).below HS3.out) (HR2.out.below HS3.out) HR3.out (fun a ha => by have := HN1.out a ha; omega) (fun a ha => by have := HN2.out a ha; omega) (fun a ha => by have := HN3.out a ha; omega)
    have hTT := And.intro (((((((HTY1.out.below HS2.out).below HS3.out).off (fun a ha => by have := HN1.out a ha; omega)).off (fun a ha => by have := HN1.out a ha; omega)).off (fun a ha => by have := HN1.out a ha; omega)).off (fun a ha => by have := HN1.out a ha; omega)) : TyB ((((w3.setCell ⟨w.heap.size + 1, 0, none⟩ (.int .i64 N)).setCell ⟨w.heap.size + 1, 1, none⟩ (.slice ao1 st.length cp1)).setCell ⟨w.heap.size + 1, 2, none⟩ (.slice ao2 tl.length cp2)).setCell ⟨w.heap.size + 1, 3, none⟩ (.slice ao3 wt.length cp3)) ao1 3 st.length) (And.intro ((((((HTY2.out.below HS3.out).off (fun a ha => by have := HN2.out a ha; omega)).off (fun a ha => by have := HN2.out a ha; omega)).off (fun a ha => by have := HN2.out a ha; omega)).off (fun a ha => by have := HN2.out a ha; omega)) : TyB ((((w3.setCell ⟨w.heap.size + 1, 0, none⟩ (.int .i64 N)).setCell ⟨w.heap.size + 1, 1, none⟩ (.slice ao1 st.length cp1)).setCell ⟨w.heap.size + 1, 2, none⟩ (.slice ao2 tl.length cp2)).setCell ⟨w.heap.size + 1, 3, none⟩ (.slice ao3 wt.length cp3)) ao2 3 tl.length) (((((HTY3.out.off (fun a ha => by have := HN3.out a ha; omega)).off (fun a ha => by have := HN3.out a ha; omega)).off (fun a ha => by have := HN3.out a ha; omega)).off (fun a ha => by have := HN3.out a ha; omega)) : TyB ((((w3.setCell ⟨w.heap.size + 1, 0, none⟩ (.int .i64 N)).setCell ⟨w.heap.size + 1, 1, none⟩ (.slice ao1 st.length cp1)).setCell ⟨w.heap.size + 1, 2, none⟩ (.slice ao2 tl.length cp2)).setCell ⟨w.heap.size + 1, 3, none⟩ (.slice ao3 wt.length cp3)) ao3 48 wt.length))
    have HTT := hide hTT
    clear hTT
    have HGG := hide hG; have HLL := hide hL; have HWF := hide hwf
    generalize ((((w3.setCell ⟨w.heap.size + 1, 0, none⟩ (.int .i64 N)).setCell ⟨w.heap.size + 1, 1, none⟩ (.slice ao1 st.length cp1)).setCell ⟨w.heap.size + 1, 2, none⟩ (.slice ao2 tl.length cp2)).setCell ⟨w.heap.size + 1, 3, none⟩ (.slice ao3 wt.length cp3)) = wf at HWF HGG HLL HTT ⊢
    clear hG hL hwf
    go_wp2
    exact bodyPost_ret (results_cell_row Try.results42 _ wf (w.heap.size + 1) 25 _ (0, 0) _ rfl HWF.out Try.underlying25 rfl (by kernel_rfl)) rfl ⟨_, _, _, _, _, _, rfl, HGG.out, HLL.out, fun a ha => by have := HN1.out a ha; omega, fun a ha => by have := HN2.out a ha; omega, fun a ha => by have := HN3.out a ha; omega, HTT.out⟩
end Go.Proofs.Ytmagigmcbegmiaa

/- shift: another graph in the same memory. -/
namespace Go.Proofs.Ytmagigmcbegmiaa
open Go.RowKit Go.Lib
set_option linter.unusedVariables false
set_option linter.unusedSimpArgs false
/-- Numbers at the head of a block. -/
def FI (k : IntKind) (e : TypeId) (w : World) (g : Nat) (xs : List Int) : Prop := ∃ T : List Value, w.heap[g]? = some (.cells (xs.map (Value.int k) ++ T).toArray e (0, 0))
section
variable {k : IntKind} {e : TypeId} {w : World} {g : Nat} {xs : List Int}
theorem FI.cell (h : FI k e w g xs) (i : Nat) (hi : i < xs.length) : w.cell? ⟨g, i, none⟩ = some (.int k (at_ xs i)) := by
  obtain ⟨T, h⟩ := h
  refine cell_of h (i := i) ?_
  simp [at_, hi, List.getElem?_append]
theorem FI.free (h : FI k e w g xs) (i : Nat) : w.frozen? ⟨g, i, none⟩ = false := by
  obtain ⟨T, h⟩ := h
  exact free_of h i
theorem FI.put (h : FI k e w g xs) (i : Nat) (hi : i < xs.length) (x : Int) : FI k e (w.setCell ⟨g, i, none⟩ (.int k x)) g (xs.set i x) := by
  obtain ⟨T, h⟩ := h
  refine ⟨T, ?_⟩
  rw [heap_set h]
  congr 2
  rw [List.map_set]
  apply Array.ext'
  simp [Array.toList_setIfInBounds, List.set_append, hi]
theorem FI.lt (h : FI k e w g xs) : g < w.heap.size := by
  obtain ⟨T, h⟩ := h
  exact lt_of_heap h
theorem FI.off (h : FI k e w g xs) {R f : Nat} {u : Value} (hg : g ≠ R) : FI k e (w.setCell ⟨R, f, none⟩ u) g xs := by
  obtain ⟨T, h⟩ := h
  exact ⟨T, (Below.heap_setCell _ _ _ _ hg).trans h⟩
theorem FI.below (h : FI k e w g xs) {w' : World} (hb : Below w.heap.size w w') : FI k e w' g xs := by
  have hl := h.lt
  obtain ⟨T, h⟩ := h
  exact ⟨T, (hb.block g hl).trans h⟩
theorem FI.of_owns {H n c : Nat} (h : w.ownsRow H e 1 (.slice (some ⟨g, 0, none⟩) n c) n (xs.map (Value.int k))) : FI k e w g xs ∧ n ≤ c ∧ c ≤ 9223372036854775807 ∧ H ≤ g := by
  obtain ⟨h0, ⟨hv, _⟩ | ⟨g', cap', cur, hv, hg, hb, h1, h2, h3, h4⟩⟩ := h
  · cases hv
  · simp only [Value.slice.injEq, Option.some.injEq, Addr.mk.injEq] at hv
    obtain ⟨⟨rfl, _, _⟩, _, rfl⟩ := hv
    refine ⟨⟨cur.toList.drop n, ?_⟩, h1, h2, hg⟩
    rw [hb, ← h4, Nat.mul_one, List.take_append_drop]
theorem FI.row (h : FI k e w g xs) {n c : Nat} (hn : xs.length = n) (hc : n ≤ c) (h63 : c ≤ 9223372036854775807) : RowAt k w (.slice (some ⟨g, 0, none⟩) n c) xs := by
  refine ⟨some ⟨g, 0, none⟩, c, by rw [hn], by omega, h63, (fun e => by cases e), ?_⟩
  intro a ha i hi
  cases ha
  rw [Addr.add_lit, Nat.zero_add, h.cell i hi]
  simp [at_, hi]
end
theorem at_first {xs ys : List Int} {i : Nat} (hi : i < xs.length) : at_ (xs ++ ys) i = at_ xs i := by simp [at_, List.getElem?_append, hi]
theorem set_first {xs ys : List Int} {i : Nat} {x : Int} (hi : i < xs.length) : (xs ++ ys).set i x = xs.set i x ++ ys := List.set_append_left _ _ hi
theorem ne_type {w : World} {a b : Nat} {x y : Array Value} {t t' : TypeId} (h : w.heap[a]? = some (.cells x t (0, 0))) (k : w.heap[b]? = some (.cells y t' (0, 0))) (ht : t ≠ t') : a ≠ b := by
  rintro rfl
  rw [h] at k
  injection k with k
  injection k with _ k _
  exact ht k
theorem FI.ne {k k' : IntKind} {e e' : TypeId} {w : World} {g g' : Nat} {xs ys : List Int} (h : FI k e w g xs) (h' : FI k' e' w g' ys) (he : e ≠ e') : g ≠ g' := by
  obtain ⟨T, hT⟩ := h
  obtain ⟨U, hU⟩ := h'
  exact ne_type hT hU he
theorem FI.ne' {k : IntKind} {e t : TypeId} {w : World} {g R : Nat} {xs : List Int} {cs : Array Value} (h : FI k e w g xs) (hR : w.heap[R]? = some (.cells cs t (0, 0))) (he : t ≠ e) : R ≠ g := by
  obtain ⟨T, hT⟩ := h
  exact ne_type hR hT he
/-- The room while its lists are written over. -/
structure RW (w wr : World) (H S R g1 g2 g3 e1 e2 e3 : Nat) (N : Int) (y1 y2 y3 : Value) (a b c : Nat) (st tl wt : List Int) : Prop where
  blk : wr.heap[R]? = some (.cells #[.int .i64 N, y1, y2, y3, .slice (some ⟨g1, 0, none⟩) (a + 2) e1, .slice (some ⟨g2, 0, none⟩) (b + 2) e2, .slice (some ⟨g3, 0, none⟩) (c + 2) e3,
      .int .i64 N, .slice (some ⟨g1, 0, none⟩) a e1, .slice (some ⟨g2, 0, none⟩) b e2, .slice (some ⟨g3, 0, none⟩) c e3] 32 (0, 0))
  s : FI .i64 3 wr g1 (st ++ [-71, -72])
  t : FI .i64 3 wr g2 (tl ++ [-73, -74])
  u : FI .u64 48 wr g3 (wt ++ [75, 76])
  ls : st.length = a
  lt : tl.length = b
  lu : wt.length = c
  chg : Chg (fun k => H ≤ k ∧ k < S) w wr
section
variable {w wr : World} {H S R g1 g2 g3 e1 e2 e3 : Nat} {N : Int} {y1 y2 y3 : Value} {a b c : Nat} {st tl wt : List Int}
theorem RW.below (h : RW w wr H S R g1 g2 g3 e1 e2 e3 N y1 y2 y3 a b c st tl wt) {x : World} (hb : Below wr.heap.size wr x) : RW w x H S R g1 g2 g3 e1 e2 e3 N y1 y2 y3 a b c st tl wt :=
  ⟨(hb.block _ (lt_of_heap h.blk)).trans h.blk, h.s.below hb, h.t.below hb, h.u.below hb, h.ls, h.lt, h.lu, h.chg.trans (Chg.of_below hb)⟩
theorem RW.drewN (h : RW w wr H S R g1 g2 g3 e1 e2 e3 N y1 y2 y3 a b c st tl wt) (n : Nat) : RW w (wr.drewN n) H S R g1 g2 g3 e1 e2 e3 N y1 y2 y3 a b c st tl wt := by
  have hb : Below wr.heap.size wr (wr.drewN n) := below_drewN (Below.refl _ _) n
  exact ⟨(hb.block _ (lt_of_heap h.blk)).trans h.blk, h.s.below hb, h.t.below hb, h.u.below hb, h.ls, h.lt, h.lu, h.chg.trans (Chg.of_below hb)⟩
theorem RW.putS (h : RW w wr H S R g1 g2 g3 e1 e2 e3 N y1 y2 y3 a b c st tl wt) (n12 : g1 ≠ g2) (hg : H ≤ g1 ∧ g1 < S) (i : Nat) (hi : i < a) (x : Int) : RW w (wr.setCell ⟨g1, i, none⟩ (.int .i64 x)) H S R g1 g2 g3 e1 e2 e3 N y1 y2 y3 a b c (st.set i x) tl wt := by
  have hR : R ≠ g1 := h.s.ne' h.blk (by decide)
  have h3 : g3 ≠ g1 := h.u.ne h.s (by decide)
  refine ⟨(Below.heap_setCell _ _ _ _ hR).trans h.blk, ?_, h.t.off n12.symm, h.u.off h3, by rw [List.length_set]; exact h.ls, h.lt, h.lu, h.chg.setCell (p := ⟨g1, i, none⟩) hg _⟩
  rw [← set_first (by rw [h.ls]; exact hi)]
  exact h.s.put i (by rw [List.length_append, h.ls]; omega) x
theorem RW.putT (h : RW w wr H S R g1 g2 g3 e1 e2 e3 N y1 y2 y3 a b c st tl wt) (n12 : g1 ≠ g2) (hg : H ≤ g2 ∧ g2 < S) (i : Nat) (hi : i < b) (x : Int) : RW w (wr.setCell ⟨g2, i, none⟩ (.int .i64 x)) H S R g1 g2 g3 e1 e2 e3 N y1 y2 y3 a b c st (tl.set i x) wt := by
  have hR : R ≠ g2 := h.t.ne' h.blk (by decide)
  have h3 : g3 ≠ g2 := h.u.ne h.t (by decide)
  refine ⟨(Below.heap_setCell _ _ _ _ hR).trans h.blk, h.s.off n12, ?_, h.u.off h3, h.ls, by rw [List.length_set]; exact h.lt, h.lu, h.chg.setCell (p := ⟨g2, i, none⟩) hg _⟩
  rw [← set_first (by rw [h.lt]; exact hi)]
  exact h.t.put i (by rw [List.length_append, h.lt]; omega) x
theorem RW.putU (h : RW w wr H S R g1 g2 g3 e1 e2 e3 N y1 y2 y3 a b c st tl wt) (hg : H ≤ g3 ∧ g3 < S) (i : Nat) (hi : i < c) (x : Int) : RW w (wr.setCell ⟨g3, i, none⟩ (.int .u64 x)) H S R g1 g2 g3 e1 e2 e3 N y1 y2 y3 a b c st tl (wt.set i x) := by
  have hR : R ≠ g3 := h.u.ne' h.blk (by decide)
  have h1 : g1 ≠ g3 := h.s.ne h.u (by decide)
  have h2 : g2 ≠ g3 := h.t.ne h.u (by decide)
  refine ⟨(Below.heap_setCell _ _ _ _ hR).trans h.blk, h.s.off h1, h.t.off h2, ?_, h.ls, h.lt, by rw [List.length_set]; exact h.lu, h.chg.setCell (p := ⟨g3, i, none⟩) hg _⟩
  rw [← set_first (by rw [h.lu]; exact hi)]
  exact h.u.put i (by rw [List.length_append, h.lu]; omega) x
theorem RW.cells (h : RW w wr H S R g1 g2 g3 e1 e2 e3 N y1 y2 y3 a b c st tl wt) : wr.cell? ⟨R, 7, none⟩ = some (.int .i64 N) ∧ wr.cell? ⟨R, 8, none⟩ = some (.slice (some ⟨g1, 0, none⟩) a e1) ∧ wr.cell? ⟨R, 9, none⟩ = some (.slice (some ⟨g2, 0, none⟩) b e2) ∧ wr.cell? ⟨R, 10, none⟩ = some (.slice (some ⟨g3, 0, none⟩) c e3) :=
  ⟨cell_of h.blk rfl, cell_of h.blk rfl, cell_of h.blk rfl, cell_of h.blk rfl⟩
end
/-- A room, also behind what turns only what lies above S and is no list. -/
def RoomT (w : World) (S T R : Nat) (N : Int) (st tl wt : List Int) : Prop := RoomIs w R N st tl wt ∧ ∀ y, Below S w y → KeepT T w y → RoomIs y R N st tl wt
theorem FI.low {k : IntKind} {e : TypeId} {w y : World} {g S : Nat} {xs : List Int} (h : FI k e w g xs) (hb : Below S w y) (hg : g < S) : FI k e y g xs := by
  obtain ⟨T, h⟩ := h
  exact ⟨T, (hb.block g hg).trans h⟩
theorem RW.done {w wr : World} {H S R g1 g2 g3 e1 e2 e3 : Nat} {N : Int} {y1 y2 y3 : Value} {a b c : Nat} {st tl wt : List Int} {ao1 ao2 ao3 : Option Addr} {c1 c2 c3 : Nat} (h : RW w wr H S R g1 g2 g3 e1 e2 e3 N y1 y2 y3 a b c st tl wt) (hR : H ≤ R ∧ R < S) (hE1 : a + 2 ≤ e1) (hE2 : b + 2 ≤ e2) (hE3 : c + 2 ≤ e3) (hM1 : e1 ≤ 9223372036854775807) (hM2 : e2 ≤ 9223372036854775807) (hM3 : e3 ≤ 9223372036854775807)
    (hg : GIs wr N (.slice ao1 st.length c1) (.slice ao2 tl.length c2) (.slice ao3 wt.length c3) st tl wt) (m1 : ∀ a, ao1 = some a → ¬ a.block = R) (m2 : ∀ a, ao2 = some a → ¬ a.block = R) (m3 : ∀ a, ao3 = some a → ¬ a.block = R) (t1 : TyB wr ao1 3 st.length) (t2 : TyB wr ao2 3 tl.length) (t3 : TyB wr ao3 48 wt.length) (u1 : g1 < S) (u2 : g2 < S) (u3 : g3 < S) (x1 : ∀ a, ao1 = some a → w.heap.size ≤ a.block) (x2 : ∀ a, ao2 = some a → w.heap.size ≤ a.block) (x3 : ∀ a, ao3 = some a → w.heap.size ≤ a.block) :
    let wf := (((wr.setCell ⟨R, 0, none⟩ (.int .i64 N)).setCell ⟨R, 1, none⟩ (.slice ao1 st.length c1)).setCell ⟨R, 2, none⟩ (.slice ao2 tl.length c2)).setCell ⟨R, 3, none⟩ (.slice ao3 wt.length c3)
    RoomT wf S w.heap.size R N st tl wt ∧ Chg (fun k => H ≤ k ∧ k < S) w wf := by
  intro wf
  have hw4 := heap_set (i := 3) (heap_set (i := 2) (heap_set (i := 1) (heap_set (i := 0) h.blk (.int .i64 N)) (.slice ao1 st.length c1)) (.slice ao2 tl.length c2)) (.slice ao3 wt.length c3)
  have n1 := (h.s.ne' h.blk (by decide)).symm
  have n2 := (h.t.ne' h.blk (by decide)).symm
  have n3 := (h.u.ne' h.blk (by decide)).symm
  have s1 : FI .i64 3 wf g1 (st ++ [-71, -72]) := (((h.s.off n1).off n1).off n1).off n1
  have s2 : FI .i64 3 wf g2 (tl ++ [-73, -74]) := (((h.t.off n2).off n2).off n2).off n2
  have s3 : FI .u64 48 wf g3 (wt ++ [75, 76]) := (((h.u.off n3).off n3).off n3).off n3
  have l1 := h.ls; have l2 := h.lt; have l3 := h.lu
  have hblk : wf.heap[R]? = some (.cells #[.int .i64 N, .slice ao1 st.length c1, .slice ao2 tl.length c2, .slice ao3 wt.length c3, .slice (some ⟨g1, 0, none⟩) (st.length + 2) e1, .slice (some ⟨g2, 0, none⟩) (tl.length + 2) e2, .slice (some ⟨g3, 0, none⟩) (wt.length + 2) e3,
      .int .i64 N, .slice (some ⟨g1, 0, none⟩) st.length e1, .slice (some ⟨g2, 0, none⟩) tl.length e2, .slice (some ⟨g3, 0, none⟩) wt.length e3] 32 (0, 0)) := by
    show ((((wr.setCell ⟨R, 0, none⟩ (.int .i64 N)).setCell ⟨R, 1, none⟩ (.slice ao1 st.length c1)).setCell ⟨R, 2, none⟩ (.slice ao2 tl.length c2)).setCell ⟨R, 3, none⟩ (.slice ao3 wt.length c3)).heap[R]? = _
    rw [hw4, l1, l2, l3]; simp
  have hgs : RowAt .i64 wf (.slice ao1 st.length c1) st := (((hg.s.setOther _ _ _ m1).setOther _ _ _ m1).setOther _ _ _ m1).setOther _ _ _ m1
  have hgt : RowAt .i64 wf (.slice ao2 tl.length c2) tl := (((hg.t.setOther _ _ _ m2).setOther _ _ _ m2).setOther _ _ _ m2).setOther _ _ _ m2
  have hgu : RowAt .u64 wf (.slice ao3 wt.length c3) wt := (((hg.u.setOther _ _ _ m3).setOther _ _ _ m3).setOther _ _ _ m3).setOther _ _ _ m3
  have ht1 : TyB wf ao1 3 st.length := (((t1.off m1).off m1).off m1).off m1
  have ht2 : TyB wf ao2 3 tl.length := (((t2.off m2).off m2).off m2).off m2
  have ht3 : TyB wf ao3 48 wt.length := (((t3.off m3).off m3).off m3).off m3
  refine ⟨⟨⟨ao1, c1, ao2, c2, ao3, c3, g1, e1, g2, e2, g3, e3, hblk, ⟨hgs, hgt, hgu⟩, ?_, ?_, ?_⟩, fun y hb hk => ⟨ao1, c1, ao2, c2, ao3, c3, g1, e1, g2, e2, g3, e3, (hb.block R hR.2).trans hblk, ⟨hgs.keepT ht1 (by decide) (by decide) (by decide) (by decide) hk x1, hgt.keepT ht2 (by decide) (by decide) (by decide) (by decide) hk x2, hgu.keepT ht3 (by decide) (by decide) (by decide) (by decide) hk x3⟩, ?_, ?_, ?_⟩⟩, ?_⟩
  · exact s1.row (by simp) (by omega) hM1
  · exact s2.row (by simp) (by omega) hM2
  · exact s3.row (by simp) (by omega) hM3
  · exact (s1.low hb u1).row (by simp) (by omega) hM1
  · exact (s2.low hb u2).row (by simp) (by omega) hM2
  · exact (s3.low hb u3).row (by simp) (by omega) hM3
  · exact (((h.chg.setCell (p := ⟨R, 0, none⟩) hR _).setCell (p := ⟨R, 1, none⟩) hR _).setCell (p := ⟨R, 2, none⟩) hR _).setCell (p := ⟨R, 3, none⟩) hR _
theorem at_setX {o : List Int} {i k : Nat} {x : Int} (hi : i < o.length) : at_ (o.set i x) k = if k = i then x else at_ o k := by
  unfold at_
  rw [List.getElem?_set]
  by_cases h : i = k
  · subst h; simp [hi]
  · rw [if_neg h, if_neg (fun h2 => h h2.symm)]
theorem mdecS {i n : Nat} (h : i < n) : n - (RowKit.intOf (.int .i64 ((i : Int) + 1))).toNat < n - (RowKit.intOf (.int .i64 (i : Int))).toNat := by simp [RowKit.intOf]; omega
set_option maxRecDepth 100000 in
set_option maxHeartbeats 8000000 in
theorem shift_any (H S R : Nat) (N : Int) (st tl wt : List Int) (w : World) (hr : RoomX w H S R N st tl wt) (hN : N ≤ 9223372036854775807) (hst : st.length * 8 ≤ 140737488351232) (hto : tl.length * 8 ≤ 140737488351232) (hwt : wt.length * 8 ≤ 140737488351232) (hw : ∀ e, 0 ≤ at_ wt e) :
    Calls Try.prog 40 #[.pointer (some ⟨R, 0, none⟩)] w fun e w' => e = .returned (.tuple #[]) ∧ ∃ st' tl' wt', st'.length = st.length ∧ tl'.length = tl.length ∧ wt'.length = wt.length ∧ (∀ e, 0 ≤ at_ wt' e) ∧ RoomT w' S w.heap.size R N st' tl' wt' ∧ Chg (fun k => H ≤ k ∧ k < S) w w' := by
  obtain ⟨ao, ca, bo, cb, co, cc, g1, e1, g2, e2, g3, e3, hh, hg, o1, o2, o3, n12, kHR, kRS, k1, k2, k3, k4⟩ := hr
  have f1 := FI.of_owns (k := .i64) (xs := st ++ [-71, -72]) (by simpa using o1)
  have f2 := FI.of_owns (k := .i64) (xs := tl ++ [-73, -74]) (by simpa using o2)
  have f3 := FI.of_owns (k := .u64) (xs := wt ++ [75, 76]) (by simpa using o3)
  obtain ⟨a, ha⟩ : ∃ a, a = st.length := ⟨_, rfl⟩
  obtain ⟨b, hb⟩ : ∃ b, b = tl.length := ⟨_, rfl⟩
  obtain ⟨c, hc⟩ : ∃ c, c = wt.length := ⟨_, rfl⟩
  rw [← ha] at hh hst f1
  rw [← hb] at hh hto f2
  rw [← hc] at hh hwt f3
  have HRW : Hid (RW w w H S R g1 g2 g3 e1 e2 e3 N (.slice ao a ca) (.slice bo b cb) (.slice co c cc) a b c st tl wt) := ⟨hh, f1.1, f2.1, f3.1, ha.symm, hb.symm, hc.symm, Chg.refl _ _⟩
  have hG1 : H ≤ g1 ∧ g1 < S := ⟨f1.2.2.2, k1⟩
  have hG2 : H ≤ g2 ∧ g2 < S := ⟨f2.2.2.2, k2⟩
  have hG3 : H ≤ g3 ∧ g3 < S := ⟨f3.2.2.2, k3⟩
  have hE1 := f1.2.1; have hE2 := f2.2.1; have hE3 := f3.2.1
  have hM1 := f1.2.2.1; have hM2 := f2.2.2.1; have hM3 := f3.2.2.1
  have HL := hide (And.intro ha (And.intro hb hc))
  have HWN := hide hw
  have HRH : Hid (H ≤ R ∧ R < S) := ⟨kHR, kRS⟩
  have H12 := hide n12; have HG1 := hide hG1; have HG2 := hide hG2; have HG3 := hide hG3; have HSW := hide k4
  obtain ⟨q7, q8, q9, q10⟩ := HRW.out.cells
  clear hh hg o1 o2 o3 f1 f2 f3 n12 kHR kRS k1 k2 k3 k4 ha hb hc hw hG1 hG2 hG3
  -- the first numbers may be looked at
  have q81 : 2 < a → w.cell? ⟨g1, 1, none⟩ = some (.int .i64 (at_ st 1)) := fun h => by
    have := HRW.out.s.cell 1 (by rw [List.length_append, HRW.out.ls]; omega)
    rw [at_first (by rw [HRW.out.ls]; omega)] at this
    exact this
  go_enter Try.func40, Try.ntmps40
  go_upto_region 2 with fail
  go_cut [31] from 19 to 31 (fun t wx => (∃ z, t = .bool z) ∧ wx = w)
  case first =>
    by_cases h2 : 2 < a
    · have hd : (2 : Int) < (a : Int) := by omega
      have q := q81 h2
      have he1 : (1 : Int) < (e1 : Int) := by omega
      have he2 : (1 : Int) < (a : Int) := by omega
      obtain ⟨x, hx⟩ : ∃ x, x = at_ st 1 := ⟨_, rfl⟩
      rw [← hx] at q
      clear hx q81
      by_cases hx : x = (b : Int)
      · have hx2 : (x == (b : Int)) = true := by simp [hx]
        clear hx
        go_wp2_with fail
        go_meet
        case rel => exact ⟨⟨_, rfl⟩, rfl⟩
      · have hx2 : (x == (b : Int)) = false := by simp [hx]
        clear hx
        go_wp2_with fail
        go_meet
        case rel => exact ⟨⟨_, rfl⟩, rfl⟩
    · have hd : ¬ (2 : Int) < (a : Int) := by omega
      go_wp2_with fail
      go_meet
      case rel => exact ⟨⟨_, rfl⟩, rfl⟩
  case rest =>
    obtain ⟨⟨z, rfl⟩, rfl⟩ := hcut
    clear q81
    go_upto_if 31 with fail
    go_cut [3] from 31 to 31 (fun t wx => (∃ en : Int, t = .int .i64 en) ∧ wx = wc)
    case first =>
      cases z
      · go_wp2_with fail
        go_meet
        case rel => exact ⟨⟨_, rfl⟩, rfl⟩
      · go_wp2_with fail
        go_meet
        case rel => exact ⟨⟨_, rfl⟩, rfl⟩
    case rest =>
      obtain ⟨⟨en, rfl⟩, rfl⟩ := hcut
      clear q7 q8 q9 q10
      go_wp2_with fail
      go_loopw [4] (fun t wr => ∃ i : Nat, i < a + 2 ∧ t = .int .i64 ((i : Int) + 1) ∧ ∃ st', RW wc wr H S R g1 g2 g3 e1 e2 e3 N (.slice ao a ca) (.slice bo b cb) (.slice co c cc) a b c st' tl wt) (fun t _ => a + 3 - (RowKit.intOf t).toNat)
      case atStart => exact ⟨0, by omega, rfl, st, HRW.out⟩
      case round =>
        obtain ⟨i, hi, rfl, st', hrw⟩ := hrel
        have HR := hide hrw
        clear hrw HRW
        obtain ⟨q7, q8, q9, q10⟩ := HR.out.cells
        by_cases hlt : i + 2 < a
        · have hl2 : (i : Int) + 1 + 1 < (a : Int) := by omega
          have y0 := HR.out.s.cell (i + 1) (by rw [List.length_append, HR.out.ls]; omega)
          have y1 := HR.out.s.free (i + 1)
          have hie : (i : Int) + 1 < (e1 : Int) := by omega
          have hia : (i : Int) + 1 < (a : Int) := by omega
          have HP := hide (HR.out.putS H12.out HG1.out (i + 1) (by omega) en)
          have HM : Hid (a + 3 - (i + 1 + 1) < a + 3 - (i + 1)) := by show _ < _; omega
          clear HR
          go_wp2_with fail
          exact ⟨⟨i + 1, by omega, by simp, _, HP.out⟩, by have := HM.out; simp [RowKit.intOf]; omega⟩
        · have hl2 : ¬ (i : Int) + 1 + 1 < (a : Int) := by omega
          clear q7 q8 q9 q10
          have q10 := HR.out.cells.2.2.2
          go_wp2_with fail
          clear q10 hl2
          go_loopw [5] (fun t wx => ∃ j : Nat, j ≤ c ∧ t = .int .i64 (j : Int) ∧ ∃ wt', RW wc wx H S R g1 g2 g3 e1 e2 e3 N (.slice ao a ca) (.slice bo b cb) (.slice co c cc) a b c st' tl wt' ∧ ∀ e, 0 ≤ at_ wt' e) (fun t _ => c - (RowKit.intOf t).toNat)
          case atStart => exact ⟨0, Nat.zero_le _, rfl, wt, HR.out, HWN.out⟩
          case round =>
            obtain ⟨j, hj, rfl, wt', hrw, hwn⟩ := hrel
            have HR2 := hide hrw; have HW2 := hide hwn
            clear hrw hwn HR
            have q10 := HR2.out.cells.2.2.2
            by_cases hjc : j < c
            · have hji : (j : Int) < (c : Int) := by omega
              have hje : (j : Int) < (e3 : Int) := by omega
              have y0 := HR2.out.u.cell j (by rw [List.length_append, HR2.out.lu]; omega)
              rw [at_first (by rw [HR2.out.lu]; exact hjc)] at y0
              have y1 := HR2.out.u.free j
              have hx0 := HW2.out j
              have HM : Hid (c - (j + 1) < c - j) := by show _ < _; omega
              have HWS : Hid (∀ x, 0 ≤ x → ∀ e, 0 ≤ at_ (wt'.set j x) e) := fun x hx e => by
                rw [at_setX (by rw [HR2.out.lu]; exact hjc)]
                split
                · exact hx
                · exact HW2.out e
              have HPU := hide (fun x => HR2.out.putU HG3.out j hjc x)
              obtain ⟨x, hx⟩ : ∃ x, x = at_ wt' j := ⟨_, rfl⟩
              rw [← hx] at y0 hx0
              clear hx
              by_cases hxm : x < 4294967295
              · go_wp2_with fail
                exact ⟨⟨j + 1, Nat.succ_le_of_lt hjc, by simp, _, HPU.out _, HWS.out _ (by omega)⟩, by have := HM.out; simp [RowKit.intOf]; omega⟩
              · go_wp2_with fail
                exact ⟨⟨j + 1, Nat.succ_le_of_lt hjc, by simp, _, HPU.out _, HWS.out _ (by omega)⟩, by have := HM.out; simp [RowKit.intOf]; omega⟩
            · have hji : ¬ (j : Int) < (c : Int) := by omega
              go_wp2_with fail
              clear q10 hji
              go_loopw [6] (fun t wy => ∃ l : Nat, l ≤ b ∧ t = .int .i64 (l : Int) ∧ ∃ tl', RW wc wy H S R g1 g2 g3 e1 e2 e3 N (.slice ao a ca) (.slice bo b cb) (.slice co c cc) a b c st' tl' wt') (fun t _ => b - (RowKit.intOf t).toNat)
              case atStart => exact ⟨0, Nat.zero_le _, rfl, tl, HR2.out⟩
              case round =>
                obtain ⟨l, hl, rfl, tl', hrw⟩ := hrel
                have HR3 := hide hrw
                clear hrw HR2
                obtain ⟨q7, q8, q9, q10⟩ := HR3.out.cells
                clear q8 q10
                by_cases hlb : l < b
                · have hli : (l : Int) < (b : Int) := by omega
                  have hle : (l : Int) < (e2 : Int) := by omega
                  have y0 := HR3.out.t.cell l (by rw [List.length_append, HR3.out.lt]; omega)
                  rw [at_first (by rw [HR3.out.lt]; exact hlb)] at y0
                  have y1 := HR3.out.t.free l
                  have HM : Hid (b - (l + 1) < b - l) := by show _ < _; omega
                  have HPU := hide (fun nq x => (HR3.out.drewN nq).putT H12.out HG2.out l hlb x)
                  obtain ⟨x, hx⟩ : ∃ x, x = at_ tl' l := ⟨_, rfl⟩
                  rw [← hx] at y0
                  clear hx
                  by_cases hx0 : 0 ≤ x
                  · have hd0 : decide ((0 : Int) ≤ x) = true := decide_eq_true hx0
                    by_cases hxn : x < N
                    · have hd1 : decide (x < N) = true := decide_eq_true hxn
                      have hN0 : ¬ N = 0 := by omega
                      have hx1 : x + 1 ≤ 9223372036854775807 := by omega
                      go_wp2_with fail
                      go_quiet (fail)
                      go_upto_region 18 with fail
                      go_region
                      all_goals
                        go_wp2_with fail
                        exact ⟨⟨l + 1, Nat.succ_le_of_lt hlb, by simp, _, (HR3.out.below (below_drew (below_drewN (Below.refl _ _) nq))).putT H12.out HG2.out l hlb _⟩, by have := HM.out; simp [RowKit.intOf]; omega⟩
                    · have hd1 : decide (x < N) = false := decide_eq_false hxn
                      go_wp2_with fail
                      go_quiet (fail)
                      go_wp2_with fail
                      exact ⟨⟨l + 1, Nat.succ_le_of_lt hlb, by simp, _, HR3.out.drewN nq⟩, by have := HM.out; simp [RowKit.intOf]; omega⟩
                  · have hd0 : decide ((0 : Int) ≤ x) = false := decide_eq_false hx0
                    go_wp2_with fail
                    go_quiet (fail)
                    go_wp2_with fail
                    exact ⟨⟨l + 1, Nat.succ_le_of_lt hlb, by simp, _, HR3.out.drewN nq⟩, by have := HM.out; simp [RowKit.intOf]; omega⟩
                · have hli : ¬ (l : Int) < (b : Int) := by omega
                  clear q7 q9
                  obtain ⟨q7, q8, q9, q10⟩ := HR3.out.cells
                  have hgi : GIs wr N (.slice (some ⟨g1, 0, none⟩) a e1) (.slice (some ⟨g2, 0, none⟩) b e2) (.slice (some ⟨g3, 0, none⟩) c e3) st' tl' wt' := by
                    have r1 := HR3.out.s.row (n := a + 2) (c := e1) (by rw [List.length_append, HR3.out.ls]; rfl) hE1 hM1
                    have r2 := HR3.out.t.row (n := b + 2) (c := e2) (by rw [List.length_append, HR3.out.lt]; rfl) hE2 hM2
                    have r3 := HR3.out.u.row (n := c + 2) (c := e3) (by rw [List.length_append, HR3.out.lu]; rfl) hE3 hM3
                    have f1 := r1.front; have f2 := r2.front; have f3 := r3.front
                    rw [HR3.out.ls] at f1
                    rw [HR3.out.lt] at f2
                    rw [HR3.out.lu] at f3
                    exact ⟨f1, f2, f3⟩
                  have HCP := hide (copy_anyX N _ _ _ st' tl' wt' wr hgi (by rw [HR3.out.ls]; omega) (by rw [HR3.out.lt]; omega) (by rw [HR3.out.lu]; omega))
                  unfold gAgg at HCP
                  clear hgi
                  go_wp2_with fail
                  clear q7 q8 q9 q10 hli
                  refine HCP.out.mono ?_
                  clear HCP
                  rintro e w5 ⟨ao5, ca5, bo5, cb5, co5, cc5, rfl, hg5, hb5, hn1, hn2, hn3, ht1, ht2, ht3⟩
                  have HR5 := hide (HR3.out.below hb5)
                  have hRw : R < wr.heap.size := lt_of_heap HR3.out.blk
                  have z0 := cell_of HR5.out.blk (i := 0) rfl; have z1 := cell_of HR5.out.blk (i := 1) rfl; have z2 := cell_of HR5.out.blk (i := 2) rfl; have z3 := cell_of HR5.out.blk (i := 3) rfl
                  have f0 := free_of HR5.out.blk 0; have f1 := free_of HR5.out.blk 1; have f2 := free_of HR5.out.blk 2; have f3 := free_of HR5.out.blk 3
                  have HEND := hide (HR5.out.done HRH.out hE1 hE2 hE3 hM1 hM2 hM3 hg5 (fun a ha => by have := hn1 a ha; omega) (fun a ha => by have := hn2 a ha; omega) (fun a ha => by have := hn3 a ha; omega) ht1 ht2 ht3 HG1.out.2 HG2.out.2 HG3.out.2 (fun a ha => by have := hn1 a ha; have := HR3.out.chg.size; omega) (fun a ha => by have := hn2 a ha; have := HR3.out.chg.size; omega) (fun a ha => by have := hn3 a ha; have := HR3.out.chg.size; omega))
                  have HLN : Hid (st'.length = st.length ∧ tl'.length = tl.length ∧ wt'.length = wt.length) := ⟨by rw [HR3.out.ls]; exact HL.out.1, by rw [HR3.out.lt]; exact HL.out.2.1, by rw [HR3.out.lu]; exact HL.out.2.2⟩
                  clear hg5 hb5 hn1 hn2 hn3 ht1 ht2 ht3 hRw HR3 HR5
                  go_wp2_with fail
                  go_end0
                  exact ⟨rfl, st', tl', wt', HLN.out.1, HLN.out.2.1, HLN.out.2.2, HW2.out, HEND.out.1, HEND.out.2⟩
end Go.Proofs.Ytmagigmcbegmiaa
