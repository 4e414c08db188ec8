/- route.Length. -/
import Derived.Test.YtehlciejhegndaaLen
namespace Go.Proofs.Ytehlciejhegndaa
open Go.RowKit Go.Lib
set_option linter.unusedVariables false

def LenPost (w : World) (r : Int × Int) (e : Ending) (w' : World) : Prop := e = .returned (.tuple #[.int .u64 r.1, .int .i64 r.2]) ∧ Below w.heap.size w w'

theorem box_keep {w W : World} {B : Nat} {x0 x1 x2 x3 : Value} (hB : B < w.heap.size) (h : Below w.heap.size w W) (d : w.cell? ⟨B, 0, none⟩ = some x0 ∧ w.cell? ⟨B, 1, none⟩ = some x1 ∧ w.cell? ⟨B, 2, none⟩ = some x2 ∧ w.cell? ⟨B, 3, none⟩ = some x3) :
    W.cell? ⟨B, 0, none⟩ = some x0 ∧ W.cell? ⟨B, 1, none⟩ = some x1 ∧ W.cell? ⟨B, 2, none⟩ = some x2 ∧ W.cell? ⟨B, 3, none⟩ = some x3 :=
  ⟨(below_cell h hB).trans d.1, (below_cell h hB).trans d.2.1, (below_cell h hB).trans d.2.2.1, (below_cell h hB).trans d.2.2.2⟩

end Go.Proofs.Ytehlciejhegndaa
