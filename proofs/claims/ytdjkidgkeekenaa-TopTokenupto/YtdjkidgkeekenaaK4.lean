/- Copies of ints with three marks: ints and intsKept. -/
import Derived.Test.YtdjkidgkeekenaaTR
import Derived.BigQuiet
namespace Go.Proofs.Ytdjkidgkeekenaa
open Go.RowKit Go.Lib
set_option linter.unusedVariables false
set_option linter.unusedSimpArgs false
theorem below_drN (w : World) (m : Nat) : Below w.heap.size w (w.drewN m) := ⟨rfl, rfl, rfl, Nat.le_refl _, fun _ _ => rfl⟩
end Go.Proofs.Ytdjkidgkeekenaa
