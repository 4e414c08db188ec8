/- room: a graph's lists with marks behind them. -/
import Derived.Test.YtiohimbifjlfdaaCopy
import Derived.Test.YtiohimbifjlfdaaMarks
namespace Go.Proofs.Ytiohimbifjlfdaa
open Go.RowKit Go.Lib
set_option linter.unusedVariables false

theorem own_newG (X : World) (e : TypeId) (B : Nat) (hB : B = X.heap.size) : (X.alloc (.cells #[] e)).ownsRow X.heap.size e 1 (.slice (some ⟨B, 0, none⟩) 0 0) 0 [] := by
  subst hB
  exact World.ownsRow_made X #[] 0 (Nat.le_refl _) (Nat.zero_le _) rfl
/-- The room's block, in a world that has grown. -/
theorem room_step {wC X X' : World} {R : Nat} {cs : Array Value} (bel : Below wC.heap.size wC X) (blk : X.heap[R]? = some (.cells cs 40 (0, 0))) (hb : Below X.heap.size X X') :
    Below wC.heap.size wC X' ∧ X'.heap[R]? = some (.cells cs 40 (0, 0)) := ⟨below_onG bel hb, (hb.block R (lt_of_heap blk)).trans blk⟩
theorem room_set {wC X : World} {R : Nat} {cs : Array Value} (bel : Below wC.heap.size wC X) (blk : X.heap[R]? = some (.cells cs 40 (0, 0))) (hR : wC.heap.size ≤ R) (f : Nat) (v : Value) :
    Below wC.heap.size wC (X.setCell ⟨R, f, none⟩ v) ∧ (X.setCell ⟨R, f, none⟩ v).heap[R]? = some (.cells (cs.setIfInBounds f v) 40 (0, 0)) :=
  ⟨bel.setCell hR _, heap_set blk v⟩

/-- The three lists with their marks, behind the last store. -/
theorem room_rows {w1b w2b w3b : World} {R g1 g2 g3 e1 e2 e3 n1 n2 n3 : Nat} {l1 l2 l3 : List Int} {u1 u2 u3 : Value}
    (h2 : Below (w1b.setCell ⟨R, 4, none⟩ u1).heap.size (w1b.setCell ⟨R, 4, none⟩ u1) w2b) (h3 : Below (w2b.setCell ⟨R, 5, none⟩ u2).heap.size (w2b.setCell ⟨R, 5, none⟩ u2) w3b)
    (r1 : RowAt .i64 w1b (.slice (some ⟨g1, 0, none⟩) n1 e1) l1) (r2 : RowAt .i64 w2b (.slice (some ⟨g2, 0, none⟩) n2 e2) l2) (r3 : RowAt .u64 w3b (.slice (some ⟨g3, 0, none⟩) n3 e3) l3)
    (k1 : R < g1) (k2 : R < g2) (k3 : R < g3) :
    RowAt .i64 (w3b.setCell ⟨R, 6, none⟩ u3) (.slice (some ⟨g1, 0, none⟩) n1 e1) l1 ∧ RowAt .i64 (w3b.setCell ⟨R, 6, none⟩ u3) (.slice (some ⟨g2, 0, none⟩) n2 e2) l2 ∧ RowAt .u64 (w3b.setCell ⟨R, 6, none⟩ u3) (.slice (some ⟨g3, 0, none⟩) n3 e3) l3 := by
  have m1 : ∀ a : Addr, some (⟨g1, 0, none⟩ : Addr) = some a → ¬ a.block = R := fun a ha => by cases ha; show ¬ g1 = R; omega
  have m2 : ∀ a : Addr, some (⟨g2, 0, none⟩ : Addr) = some a → ¬ a.block = R := fun a ha => by cases ha; show ¬ g2 = R; omega
  have m3 : ∀ a : Addr, some (⟨g3, 0, none⟩ : Addr) = some a → ¬ a.block = R := fun a ha => by cases ha; show ¬ g3 = R; omega
  refine ⟨?_, ?_, ?_⟩
  · exact ((((r1.setOtherG R 4 u1 m1).below h2).setOtherG R 5 u2 m1).below h3).setOtherG R 6 u3 m1
  · exact ((r2.setOtherG R 5 u2 m2).below h3).setOtherG R 6 u3 m2
  · exact r3.setOtherG R 6 u3 m3

/-- A room in memory: the copy, the three lists with their marks, and what is handed in. -/
def RoomIs (w : World) (R : Nat) (N : Int) (st to wt : List Int) : Prop :=
  ∃ ao ca bo cb co cc g1 e1 g2 e2 g3 e3, w.heap[R]? = some (.cells #[.int .i64 N, .slice ao st.length ca, .slice bo to.length cb, .slice co wt.length cc, .slice (some ⟨g1, 0, none⟩) (st.length + 2) e1, .slice (some ⟨g2, 0, none⟩) (to.length + 2) e2, .slice (some ⟨g3, 0, none⟩) (wt.length + 2) e3,
      .int .i64 N, .slice (some ⟨g1, 0, none⟩) st.length e1, .slice (some ⟨g2, 0, none⟩) to.length e2, .slice (some ⟨g3, 0, none⟩) wt.length e3] 40 (0, 0)) ∧
    GIs w N (.slice ao st.length ca) (.slice bo to.length cb) (.slice co wt.length cc) st to wt ∧
    RowAt .i64 w (.slice (some ⟨g1, 0, none⟩) (st.length + 2) e1) (st ++ [-71, -72]) ∧ RowAt .i64 w (.slice (some ⟨g2, 0, none⟩) (to.length + 2) e2) (to ++ [-73, -74]) ∧ RowAt .u64 w (.slice (some ⟨g3, 0, none⟩) (wt.length + 2) e3) (wt ++ [75, 76])
theorem RoomIs.below {w w' : World} {R : Nat} {N : Int} {st to wt : List Int} (h : RoomIs w R N st to wt) (hb : Below w.heap.size w w') : RoomIs w' R N st to wt := by
  obtain ⟨ao, ca, bo, cb, co, cc, g1, e1, g2, e2, g3, e3, hh, hg, h1, h2, h3⟩ := h
  exact ⟨ao, ca, bo, cb, co, cc, g1, e1, g2, e2, g3, e3, (hb.block R (lt_of_heap hh)).trans hh, hg.below hb, h1.below hb, h2.below hb, h3.below hb⟩
theorem RowAt.off {k : IntKind} {w wC : World} {ao : Option Addr} {n c : Nat} {xs : List Int} (h : RowAt k wC (.slice ao n c) xs) (hb : Below wC.heap.size wC w) (f : Nat) (u : Value) : RowAt k (w.setCell ⟨wC.heap.size, f, none⟩ u) (.slice ao n c) xs :=
  h.below (hb.setCell (Nat.le_refl _) _)

theorem room_last {w wC X : World} {N : Int} {ao bo co : Option Addr} {ca cb cc g1 e1 g2 e2 g3 e3 : Nat} {st to wt : List Int} {y7 y8 y9 y10 : Value} (hb : Below w.heap.size w X) (hC : w.heap.size ≤ wC.heap.size)
    (hh : X.heap[wC.heap.size]? = some (.cells #[.int .i64 N, .slice ao st.length ca, .slice bo to.length cb, .slice co wt.length cc, .slice (some ⟨g1, 0, none⟩) (st.length + 2) e1, .slice (some ⟨g2, 0, none⟩) (to.length + 2) e2, .slice (some ⟨g3, 0, none⟩) (wt.length + 2) e3, y7, y8, y9, y10] 40 (0, 0)))
    (_hX : GIs X N (.slice ao st.length ca) (.slice bo to.length cb) (.slice co wt.length cc) st to wt) (hG : GIs wC N (.slice ao st.length ca) (.slice bo to.length cb) (.slice co wt.length cc) st to wt) (hbC : Below wC.heap.size wC X)
    (r1 : RowAt .i64 X (.slice (some ⟨g1, 0, none⟩) (st.length + 2) e1) (st ++ [-71, -72])) (r2 : RowAt .i64 X (.slice (some ⟨g2, 0, none⟩) (to.length + 2) e2) (to ++ [-73, -74])) (r3 : RowAt .u64 X (.slice (some ⟨g3, 0, none⟩) (wt.length + 2) e3) (wt ++ [75, 76]))
    (k1 : wC.heap.size < g1) (k2 : wC.heap.size < g2) (k3 : wC.heap.size < g3) :
    let wf := ((((X.setCell ⟨wC.heap.size, 7, none⟩ (.int .i64 N)).setCell ⟨wC.heap.size, 8, none⟩ (.slice (some ⟨g1, 0, none⟩) st.length e1)).setCell ⟨wC.heap.size, 9, none⟩ (.slice (some ⟨g2, 0, none⟩) to.length e2)).setCell ⟨wC.heap.size, 10, none⟩ (.slice (some ⟨g3, 0, none⟩) wt.length e3)).drew
    RoomIs wf wC.heap.size N st to wt ∧ Below w.heap.size w wf := by
  intro wf
  have hw4 := heap_set (i := 10) (heap_set (i := 9) (heap_set (i := 8) (heap_set (i := 7) hh (.int .i64 N)) (.slice (some ⟨g1, 0, none⟩) st.length e1)) (.slice (some ⟨g2, 0, none⟩) to.length e2)) (.slice (some ⟨g3, 0, none⟩) wt.length e3)
  have hB4 : Below wC.heap.size wC wf := ((((hbC.setCell (p := ⟨wC.heap.size, 7, none⟩) (Nat.le_refl _) _).setCell (p := ⟨wC.heap.size, 8, none⟩) (Nat.le_refl _) _).setCell (p := ⟨wC.heap.size, 9, none⟩) (Nat.le_refl _) _).setCell (p := ⟨wC.heap.size, 10, none⟩) (Nat.le_refl _) _).drew
  have m1 : ∀ a : Addr, some (⟨g1, 0, none⟩ : Addr) = some a → ¬ a.block = wC.heap.size := fun a ha => by cases ha; show ¬ g1 = wC.heap.size; omega
  have m2 : ∀ a : Addr, some (⟨g2, 0, none⟩ : Addr) = some a → ¬ a.block = wC.heap.size := fun a ha => by cases ha; show ¬ g2 = wC.heap.size; omega
  have m3 : ∀ a : Addr, some (⟨g3, 0, none⟩ : Addr) = some a → ¬ a.block = wC.heap.size := fun a ha => by cases ha; show ¬ g3 = wC.heap.size; omega
  refine ⟨⟨ao, ca, bo, cb, co, cc, g1, e1, g2, e2, g3, e3, ?_, hG.below hB4, ?_, ?_, ?_⟩, ?_⟩
  · show ((((X.setCell ⟨wC.heap.size, 7, none⟩ (.int .i64 N)).setCell ⟨wC.heap.size, 8, none⟩ (.slice (some ⟨g1, 0, none⟩) st.length e1)).setCell ⟨wC.heap.size, 9, none⟩ (.slice (some ⟨g2, 0, none⟩) to.length e2)).setCell ⟨wC.heap.size, 10, none⟩ (.slice (some ⟨g3, 0, none⟩) wt.length e3)).heap[wC.heap.size]? = _
    rw [hw4]; simp
  · exact ((((r1.setOtherG _ 7 _ m1).setOtherG _ 8 _ m1).setOtherG _ 9 _ m1).setOtherG _ 10 _ m1).below (Below.refl _ _).drew
  · exact ((((r2.setOtherG _ 7 _ m2).setOtherG _ 8 _ m2).setOtherG _ 9 _ m2).setOtherG _ 10 _ m2).below (Below.refl _ _).drew
  · exact ((((r3.setOtherG _ 7 _ m3).setOtherG _ 8 _ m3).setOtherG _ 9 _ m3).setOtherG _ 10 _ m3).below (Below.refl _ _).drew
  · exact ((((hb.setCell (p := ⟨wC.heap.size, 7, none⟩) hC _).setCell (p := ⟨wC.heap.size, 8, none⟩) hC _).setCell (p := ⟨wC.heap.size, 9, none⟩) hC _).setCell (p := ⟨wC.heap.size, 10, none⟩) hC _).drew

end Go.Proofs.Ytiohimbifjlfdaa
