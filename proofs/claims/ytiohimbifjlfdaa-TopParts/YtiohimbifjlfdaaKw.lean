/- kept, and the law StrongOrders. -/
import Derived.Test.YtiohimbifjlfdaaLl
namespace Go.Proofs.Ytiohimbifjlfdaa
open Go.RowKit Go.Lib
set_option linter.unusedVariables false
set_option linter.unusedSimpArgs false
end Go.Proofs.Ytiohimbifjlfdaa
