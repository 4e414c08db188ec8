/- append of tasks to a new list; two marks behind it. -/
import Derived.Test.YtgjdjdgondpjeaaGreatT1
import Derived.Deep.Slices
import Derived.SizedLaws
import Derived.ProofKit
import Derived.OpenShut
namespace Go.Proofs.YtgjdjdgondpjeaaGreat
open Go.RowKit Go.Lib
set_option linter.unusedVariables false
theorem four_at (w : World) (x0 x1 x2 x3 : Value) (t : TypeId) : ∀ j u, [x0, x1, x2, x3][j]? = some u → (w.alloc (.cells #[x0, x1, x2, x3] t)).cell? ((⟨w.heap.size, 0, none⟩ : Addr).add j) = some u := by
  intro j u hj
  have hh : (w.alloc (.cells #[x0, x1, x2, x3] t)).heap[w.heap.size]? = some (.cells #[x0, x1, x2, x3] t (0, 0)) := heap_new _ _
  rw [Addr.add_lit]
  match j, hj with
  | 0, hj => simp at hj; subst hj; exact cell_of hh rfl
  | 1, hj => simp at hj; subst hj; exact cell_of hh rfl
  | 2, hj => simp at hj; subst hj; exact cell_of hh rfl
  | 3, hj => simp at hj; subst hj; exact cell_of hh rfl
/-- A row of tasks at the head of a block, with two marked ones behind it. -/
structure TM (w : World) (g c M : Nat) (l : List Tk) (k1 k2 : Int) : Prop where
  t : TAt w (.slice (some ⟨g, 0, none⟩) M c) l
  c1 : w.cell? ⟨g, M * 2, none⟩ = some (.int .u64 k1)
  c2 : w.cell? ⟨g, (M + 1) * 2, none⟩ = some (.int .u64 k2)
theorem TM.below {w w' : World} {g c M : Nat} {l : List Tk} {k1 k2 : Int} (h : TM w g c M l k1 k2) (hb : Below w.heap.size w w') : TM w' g c M l k1 k2 :=
  ⟨h.t.below hb, (below_cell hb (block_of_cell h.c1)).trans h.c1, (below_cell hb (block_of_cell h.c1)).trans h.c2⟩
theorem marksT_made {k1 k2 : Int} {w w1 w2 : World} {v1 v2 : Value} {l : List Tk} {p : Obj} (h1 : w1.ownsRow w.heap.size 42 2 v1 l.length (tCells l)) (hb1 : Below w.heap.size w w1)
    (hown : w2.ownsRow w.heap.size 42 2 v2 (l.length + 2) (tCells l ++ [.int .u64 k1, .int .u64 0, .int .u64 k2, .int .u64 0])) (hgrow : (w1.alloc p).grownBy w2 v1.ownBlock) :
    ∃ g c, v2 = .slice (some ⟨g, 0, none⟩) (l.length + 2) c ∧ l.length + 2 ≤ c ∧ c ≤ 9223372036854775807 ∧ w.heap.size ≤ g ∧ TM w2 g c l.length l k1 k2 ∧ Below w.heap.size w w2 := by
  have hL : Below w.heap.size w w2 := by
    refine (hb1.alloc hb1.size _).grown hgrow (by have := hb1.size; simp; omega) ?_
    intro j hj
    obtain ⟨_, ⟨rfl, _⟩ | ⟨g', cap, cur', rfl, hg', _⟩⟩ := h1
    · simp [Value.ownBlock] at hj
    · simp [Value.ownBlock] at hj; omega
  obtain ⟨_, ⟨rfl, h0⟩ | ⟨g, cap, cur, rfl, hg, hh, hnc, hcm, hcur, htake⟩⟩ := hown
  · omega
  · have hat : ∀ j u, (tCells l ++ [Value.int .u64 k1, .int .u64 0, .int .u64 k2, .int .u64 0])[j]? = some u → w2.cell? ⟨g, j, none⟩ = some u := by
      intro j u hj
      have hjl : j < (l.length + 2) * 2 := by
        have := (List.getElem?_eq_some_iff.1 hj).1
        simp [tCells_length] at this
        omega
      rw [← htake, List.getElem?_take_of_lt hjl] at hj
      exact cell_of hh (by simpa using hj)
    have e1 : (tCells l).length = l.length * 2 := tCells_length l
    refine ⟨g, cap, rfl, hnc, hcm, hg, ⟨⟨_, _, rfl, by omega, hcm, fun i hi => ⟨g, 0, rfl, ?_, ?_⟩⟩, ?_, ?_⟩, hL⟩
    · rw [Nat.zero_add]
      exact hat _ _ (by rw [List.getElem?_append_left (by omega)]; exact (tCells_at l i hi).1)
    · rw [Nat.zero_add]
      exact hat _ _ (by rw [List.getElem?_append_left (by omega)]; exact (tCells_at l i hi).2)
    · exact hat _ _ (by rw [List.getElem?_append_right (by omega), e1, Nat.sub_self]; rfl)
    · exact hat _ _ (by rw [List.getElem?_append_right (by omega), e1, show (l.length + 1) * 2 - l.length * 2 = 2 by omega]; rfl)
end Go.Proofs.YtgjdjdgondpjeaaGreat
