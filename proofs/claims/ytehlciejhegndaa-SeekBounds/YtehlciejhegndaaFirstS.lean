/- The reference's first error of graph, kind and starts; Begin; longer and Least of a graph without edges. -/
import Derived.Test.YtehlciejhegndaaTermsS
namespace Go.Proofs.Ytehlciejhegndaa
open Go.RowKit Go.Lib
set_option linter.unusedVariables false

end Go.Proofs.Ytehlciejhegndaa
