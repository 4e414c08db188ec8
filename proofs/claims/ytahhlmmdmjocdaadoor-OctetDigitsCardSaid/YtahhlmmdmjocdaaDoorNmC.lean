/- The reference's Decimal, any number. -/
import Derived.Test.YtahhlmmdmjocdaaDoorNmB
namespace Go.Proofs.YtahhlmmdmjocdaaDoor
open Go.Shelf Go.RowKit Go.Sort Go.Lib
set_option linter.unusedVariables false
set_option linter.unusedSimpArgs false
theorem wrap_quo {a : Int} (h0 : 0 ≤ a) (h1 : a < 18446744073709551616) : IntKind.u64.wrap (a.tdiv 10) = a / 10 := by
  rw [Int.tdiv_eq_ediv_of_nonneg h0, IntKind.wrap_u64]; omega
theorem wrap_rem {a : Int} (h0 : 0 ≤ a) (h1 : a < 18446744073709551616) : IntKind.u64.wrap (a.tmod 10) = a % 10 := by
  rw [Int.tmod_eq_emod_of_nonneg h0, IntKind.wrap_u64]; omega
end Go.Proofs.YtahhlmmdmjocdaaDoor
