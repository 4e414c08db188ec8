/- The reference's Copy. -/
import Derived.Test.YtiohimbifjlfdaaCheck
import Derived.Test.YtiohimbifjlfdaaFresh
namespace Go.Proofs.Ytiohimbifjlfdaa
open Go.RowKit Go.Lib
set_option linter.unusedVariables false

theorem Try.info3G : (Try.prog.info? 3).map (fun i => (i.zero, i.size, i.bytes)) = some (some (.int .i64 0), 1, 8) := by kernel_rfl
theorem Try.info58G : (Try.prog.info? 46).map (fun i => (i.zero, i.size, i.bytes)) = some (some (.int .u64 0), 1, 8) := by kernel_rfl

theorem below_allocG {a w : World} (h : Below a.heap.size a w) (o : Obj) : Below a.heap.size a (w.alloc o) := h.alloc h.size o
theorem below_drewG {a w : World} (h : Below a.heap.size a w) : Below a.heap.size a w.drew := h.drew
theorem below_onG {a w w' : World} (h : Below a.heap.size a w) (k : Below w.heap.size w w') : Below a.heap.size a w' := h.trans (k.mono h.size)

/-- The cells of two blocks of four, as they were. -/
theorem two_keepG {W x : World} {A B : Nat} {p0 p1 p2 p3 q0 q1 q2 q3 : Value} (hA : W.heap[A]? = some (.cells #[p0, p1, p2, p3] 28 (0, 0))) (hB : W.heap[B]? = some (.cells #[q0, q1, q2, q3] 28 (0, 0))) (h : Below W.heap.size W x) :
    (x.cell? ⟨A, 0, none⟩ = some p0 ∧ x.cell? ⟨A, 1, none⟩ = some p1 ∧ x.cell? ⟨A, 2, none⟩ = some p2 ∧ x.cell? ⟨A, 3, none⟩ = some p3) ∧ x.heap[B]? = some (.cells #[q0, q1, q2, q3] 28 (0, 0)) := by
  have hA' := (h.block A (lt_of_heap hA)).trans hA
  have hB' := (h.block B (lt_of_heap hB)).trans hB
  exact ⟨⟨cell_of hA' rfl, cell_of hA' rfl, cell_of hA' rfl, cell_of hA' rfl⟩, hB'⟩

theorem RowAt.setOtherG {k : IntKind} {w : World} {ao : Option Addr} {n c : Nat} {xs : List Int} (h : RowAt k w (.slice ao n c) xs) (B i : Nat) (u : Value) (hn : ∀ a, ao = some a → ¬ a.block = B) : RowAt k (w.setCell ⟨B, i, none⟩ u) (.slice ao n c) xs := by
  obtain ⟨ao', c', he, h1, h2, h3, h4⟩ := h
  simp only [Value.slice.injEq] at he
  obtain ⟨rfl, rfl, rfl⟩ := he
  refine ⟨ao, c, rfl, h1, h2, h3, fun a ha j hj => ?_⟩
  have h5 := h4 a ha j hj
  rw [← h5]
  have hb : (a.add j).block ≠ B := by
    have e : (a.add j).block = a.block := by unfold Addr.add; split <;> rfl
    rw [e]; exact hn a ha
  unfold World.cell?
  rw [Below.heap_setCell w ⟨B, i, none⟩ u (a.add j).block hb]

theorem copy_end {w W w3 : World} {N : Int} {ao1 ao2 ao3 : Option Addr} {n1 n2 n3 c1 c2 c3 : Nat} {st to wt : List Int} {q0 q1 q2 q3 : Value} (hbW : Below w.heap.size w W) (hb3 : Below W.heap.size W w3)
    (hz : w3.heap[w.heap.size + 1]? = some (.cells #[q0, q1, q2, q3] 28 (0, 0))) (h1 : RowAt .i64 w3 (.slice ao1 n1 c1) st) (h2 : RowAt .i64 w3 (.slice ao2 n2 c2) to) (h3 : RowAt .u64 w3 (.slice ao3 n3 c3) wt)
    (m1 : ∀ a, ao1 = some a → ¬ a.block = w.heap.size + 1) (m2 : ∀ a, ao2 = some a → ¬ a.block = w.heap.size + 1) (m3 : ∀ a, ao3 = some a → ¬ a.block = w.heap.size + 1) :
    let wf := (((w3.setCell ⟨w.heap.size + 1, 0, none⟩ (.int .i64 N)).setCell ⟨w.heap.size + 1, 1, none⟩ (.slice ao1 n1 c1)).setCell ⟨w.heap.size + 1, 2, none⟩ (.slice ao2 n2 c2)).setCell ⟨w.heap.size + 1, 3, none⟩ (.slice ao3 n3 c3)
    wf.heap[w.heap.size + 1]? = some (.cells #[.int .i64 N, .slice ao1 n1 c1, .slice ao2 n2 c2, .slice ao3 n3 c3] 28 (0, 0)) ∧
      GIs wf N (.slice ao1 n1 c1) (.slice ao2 n2 c2) (.slice ao3 n3 c3) st to wt ∧ Below w.heap.size w wf := by
  intro wf
  have hh := heap_set (i := 3) (heap_set (i := 2) (heap_set (i := 1) (heap_set (i := 0) hz (.int .i64 N)) (.slice ao1 n1 c1)) (.slice ao2 n2 c2)) (.slice ao3 n3 c3)
  have hw : wf.heap[w.heap.size + 1]? = some (.cells #[.int .i64 N, .slice ao1 n1 c1, .slice ao2 n2 c2, .slice ao3 n3 c3] 28 (0, 0)) := by
    show ((((w3.setCell ⟨w.heap.size + 1, 0, none⟩ (.int .i64 N)).setCell ⟨w.heap.size + 1, 1, none⟩ (.slice ao1 n1 c1)).setCell ⟨w.heap.size + 1, 2, none⟩ (.slice ao2 n2 c2)).setCell ⟨w.heap.size + 1, 3, none⟩ (.slice ao3 n3 c3)).heap[w.heap.size + 1]? = _
    rw [hh]
    simp
  refine ⟨hw, ⟨?_, ?_, ?_⟩, ?_⟩
  · exact (((h1.setOtherG _ _ _ m1).setOtherG _ _ _ m1).setOtherG _ _ _ m1).setOtherG _ _ _ m1
  · exact (((h2.setOtherG _ _ _ m2).setOtherG _ _ _ m2).setOtherG _ _ _ m2).setOtherG _ _ _ m2
  · exact (((h3.setOtherG _ _ _ m3).setOtherG _ _ _ m3).setOtherG _ _ _ m3).setOtherG _ _ _ m3
  · have hb : Below w.heap.size w w3 := below_onG hbW hb3
    exact (((hb.setCell (p := ⟨w.heap.size + 1, 0, none⟩) (by show w.heap.size ≤ w.heap.size + 1; omega) _).setCell (p := ⟨w.heap.size + 1, 1, none⟩) (by show w.heap.size ≤ w.heap.size + 1; omega) _).setCell (p := ⟨w.heap.size + 1, 2, none⟩) (by show w.heap.size ≤ w.heap.size + 1; omega) _).setCell (p := ⟨w.heap.size + 1, 3, none⟩) (by show w.heap.size ≤ w.heap.size + 1; omega) _

end Go.Proofs.Ytiohimbifjlfdaa
