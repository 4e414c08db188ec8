/- slices.Reverse of a row at the head of a block. -/
import Derived.Test.YtehlciejhegndaaPathPlain
namespace Go.Proofs.Ytehlciejhegndaa
open Go.RowKit Go.Lib
set_option linter.unusedVariables false

theorem RowW.drew {w : World} {g : Nat} {l : List Int} (h : RowW w g l) : RowW w.drew g l := h

end Go.Proofs.Ytehlciejhegndaa
