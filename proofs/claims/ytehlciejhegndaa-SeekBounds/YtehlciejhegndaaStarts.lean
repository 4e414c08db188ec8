/- route.Starts and the reference's. -/
import Derived.Test.YtehlciejhegndaaSRow
namespace Go.Proofs.Ytehlciejhegndaa
open Go.RowKit Go.Lib
set_option linter.unusedVariables false

theorem Try.info47 : (Try.prog.info? 47).map (fun i => (i.zero, i.size, i.bytes)) = some (some (.agg #[.int .i64 0, .int .u64 0]), 2, 16) := by kernel_rfl

/-- What a call of Starts has made: its list, its error. -/
def StPost (w : World) (l : List (Int × Int)) (no : Int) (e : Ending) (w' : World) : Prop := ∃ v, e = .returned (.tuple #[v, .int .i64 no]) ∧ SRow w' v l ∧ Below w.heap.size w w'

theorem one_start (w : World) (f : Int) : SRow (w.alloc (.cells #[.int .i64 f, .int .u64 0] 47)) (.slice (some ⟨w.heap.size, 0, none⟩) 1 1) [(f, 0)] := by
  have hh : (w.alloc (.cells #[.int .i64 f, .int .u64 0] 47)).heap[w.heap.size]? = some (.cells #[.int .i64 f, .int .u64 0] 47 (0, 0)) := heap_new _ _
  refine .inr ⟨w.heap.size, 1, rfl, by simp, by omega, fun i hi => ?_⟩
  have : i = 0 := by simpa using hi
  subst this
  exact ⟨cell_of hh rfl, cell_of hh rfl⟩

end Go.Proofs.Ytehlciejhegndaa
