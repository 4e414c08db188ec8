/- The document's edges. -/
import Derived.Test.YtiohimbifjlfdaaLaiO
import Derived.Test.YtiohimbifjlfdaaFmFw
import Derived.Deep.AppendLies
namespace Go.Proofs.Ytiohimbifjlfdaa
open Go.RowKit Go.Lib
set_option linter.unusedVariables false
set_option linter.unusedSimpArgs false
theorem Try.info48 : (Try.prog.info? 48).map (fun i => (i.zero, i.size, i.bytes)) = some (some (.agg #[.int .i64 0, .int .i64 0, .int .u64 0]), 3, 24) := by kernel_rfl
theorem three_at' (w : World) (x y z : Value) (t : TypeId) : ∀ j u, [x, y, z][j]? = some u → (w.alloc (.cells #[x, y, z] t)).drew.cell? ((⟨w.heap.size, 0, none⟩ : Addr).add j) = some u := fun j u h => three_at w x y z t j u h
structure EG (w wr : World) (gb : Array Value) (cv : Value) (l : List Ed3) : Prop where
  bel : Below w.heap.size w wr
  box : wr.heap[w.heap.size]? = some (.cells gb 28 (0, 0))
  own : wr.ownsRow (w.heap.size + 1) 48 3 cv l.length (eCells l)
section
variable {w wr : World} {gb : Array Value} {cv : Value} {l : List Ed3}
theorem EG.own_lt (h : EG w wr gb cv l) : ∀ k, cv.ownBlock = some k → w.heap.size + 1 ≤ k ∧ k < wr.heap.size := fun k hk => World.ownsRow.lt h.own k hk
theorem EG.came (h : EG w wr gb cv l) {w1 : World} (h1 : Chg (fun _ => False) wr w1) {x : Ed3} {g cap : Nat} {w2 : World} (hown : w2.ownsRow (w.heap.size + 1) 48 3 (.slice (some ⟨g, 0, none⟩) (l.length + 1) cap) (l.length + 1) (eCells l ++ [.int .i64 x.1, .int .i64 x.2.1, .int .u64 x.2.2])) (hgrow : w1.grownBy w2 cv.ownBlock) :
    EG w w2 gb (.slice (some ⟨g, 0, none⟩) (l ++ [x]).length cap) (l ++ [x]) := by
  have hc : Chg (fun k => cv.ownBlock = some k) wr w2 := (h1.mono (fun _ h => h.elim)).grown hgrow (fun k hk => .inl hk)
  refine ⟨Chg.below h.bel hc (fun k hk => by have := h.own_lt k hk; omega) h.bel.size, hc.heap h.box (fun h3 => by have := h.own_lt _ h3; omega), ?_⟩
  rw [List.length_append, List.length_singleton, eCells_snoc]
  exact hown
end
end Go.Proofs.Ytiohimbifjlfdaa
