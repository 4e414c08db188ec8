/-
  No cell of these rows narrows 'for every input' (looked for: loops, veiled, ifaces, maps, wideKeys, modest, calm, conditions, laid).
  DERIVED. THE GIVEN ROWS OF THIS SEAT. 16 by the template 'for every input the law returns true; each argument reads behind the call as it read before'; 0 by the template 'total and deterministic' (their statements: YthoklgdlnmccmaaTotals.lean).
  GIVEN WITH THE SEED: the statements are not yours to turn. If you find one false, say at which input.
  Laid BY PROGRAM, IN A SANDBOX (cutbox-rows.mjs): the forced cells as the released guide's own fill.sh prints them over the translation 32adb04286209aad… (all of the seat's roots in one cut). By AI agents, Wed Nov 11 2026. No macro, syntax, notation, axiom, sorry.
-/
import Derived.Test.YthoklgdlnmccmaaChecked
import GoSem.Claim
import GoSem.ClaimJoined
import GoSem.ClaimMapViews
import Derived.JoinedTies
import Derived.KernelRfl
namespace Go.Proofs.Ythoklgdlnmccmaa
/- THE CELL 'sum', in the pinned program and in every row, IS THE sha256 OF THE DUMP (.gsa) THAT YthoklgdlnmccmaaProg.lean LOADS. Nothing in Lean hashes anything: it is a label: what it is worth is what the hold of that sum in a sandbox is worth. -/
noncomputable def Try.pinned : Pinned := { name := "ythoklgdlnmccmaa", sum := "32adb04286209aad7c1a9c86ea0b5202b5f2f6652012187fb2045b9ceee3d6a2", checked := Try.checked }
namespace Rows
def none {H : Type} : Left H := { results := [], args := [] }

/-- 'wayfarelaw09.RouteExtends': WHATEVER THE INPUT: true; the input reads as it did. -/
def routeExtendsSpec : ChangeSpec := { name := "routeExtends", fn := fun _ => fun
  | [d1, d2, d3, d4] => { results := [.lit (.bool true)], args := [d1, d2, d3, d4] }
  | _ => none }
def routeExtendsRow : OpenClaim := { program := "ythoklgdlnmccmaa", sum := "32adb04286209aad7c1a9c86ea0b5202b5f2f6652012187fb2045b9ceee3d6a2", func := "wayfare/wayfarelaw09.RouteExtends", spec := "routeExtends", apart := false }
def RouteExtendsSaid : Prop := routeExtendsRow.holds Try.pinned (OpenSpec.ofChange routeExtendsSpec)

/-- ITS FALSE NEIGHBOUR: 'it returns false'. Refute it at one input. -/
def routeExtendsWrong : ChangeSpec := { name := "routeExtends", fn := fun _ => fun
  | [d1, d2, d3, d4] => { results := [.lit (.bool false)], args := [d1, d2, d3, d4] }
  | _ => none }
def RouteExtendsWrongFalsely : Prop := routeExtendsRow.holds Try.pinned (OpenSpec.ofChange routeExtendsWrong)

/-- 'wayfarelaw09.RouteStarts': WHATEVER THE INPUT: true; the input reads as it did. -/
def routeStartsSpec : ChangeSpec := { name := "routeStarts", fn := fun _ => fun
  | [d1, d2, d3] => { results := [.lit (.bool true)], args := [d1, d2, d3] }
  | _ => none }
def routeStartsRow : OpenClaim := { program := "ythoklgdlnmccmaa", sum := "32adb04286209aad7c1a9c86ea0b5202b5f2f6652012187fb2045b9ceee3d6a2", func := "wayfare/wayfarelaw09.RouteStarts", spec := "routeStarts", apart := false }
def RouteStartsSaid : Prop := routeStartsRow.holds Try.pinned (OpenSpec.ofChange routeStartsSpec)

/-- ITS FALSE NEIGHBOUR: 'it returns false'. Refute it at one input. -/
def routeStartsWrong : ChangeSpec := { name := "routeStarts", fn := fun _ => fun
  | [d1, d2, d3] => { results := [.lit (.bool false)], args := [d1, d2, d3] }
  | _ => none }
def RouteStartsWrongFalsely : Prop := routeStartsRow.holds Try.pinned (OpenSpec.ofChange routeStartsWrong)

/-- 'wayfarelaw09.RoutePaths': WHATEVER THE INPUT: true; the input reads as it did. -/
def routePathsSpec : ChangeSpec := { name := "routePaths", fn := fun _ => fun
  | [d1, d2, d3] => { results := [.lit (.bool true)], args := [d1, d2, d3] }
  | _ => none }
def routePathsRow : OpenClaim := { program := "ythoklgdlnmccmaa", sum := "32adb04286209aad7c1a9c86ea0b5202b5f2f6652012187fb2045b9ceee3d6a2", func := "wayfare/wayfarelaw09.RoutePaths", spec := "routePaths", apart := false }
def RoutePathsSaid : Prop := routePathsRow.holds Try.pinned (OpenSpec.ofChange routePathsSpec)

/-- ITS FALSE NEIGHBOUR: 'it returns false'. Refute it at one input. -/
def routePathsWrong : ChangeSpec := { name := "routePaths", fn := fun _ => fun
  | [d1, d2, d3] => { results := [.lit (.bool false)], args := [d1, d2, d3] }
  | _ => none }
def RoutePathsWrongFalsely : Prop := routePathsRow.holds Try.pinned (OpenSpec.ofChange routePathsWrong)

/-- 'wayfarelaw09.RouteLengths': WHATEVER THE INPUT: true; the input reads as it did. -/
def routeLengthsSpec : ChangeSpec := { name := "routeLengths", fn := fun _ => fun
  | [d1, d2, d3, d4] => { results := [.lit (.bool true)], args := [d1, d2, d3, d4] }
  | _ => none }
def routeLengthsRow : OpenClaim := { program := "ythoklgdlnmccmaa", sum := "32adb04286209aad7c1a9c86ea0b5202b5f2f6652012187fb2045b9ceee3d6a2", func := "wayfare/wayfarelaw09.RouteLengths", spec := "routeLengths", apart := false }
def RouteLengthsSaid : Prop := routeLengthsRow.holds Try.pinned (OpenSpec.ofChange routeLengthsSpec)

/-- ITS FALSE NEIGHBOUR: 'it returns false'. Refute it at one input. -/
def routeLengthsWrong : ChangeSpec := { name := "routeLengths", fn := fun _ => fun
  | [d1, d2, d3, d4] => { results := [.lit (.bool false)], args := [d1, d2, d3, d4] }
  | _ => none }
def RouteLengthsWrongFalsely : Prop := routeLengthsRow.holds Try.pinned (OpenSpec.ofChange routeLengthsWrong)

/-- 'wayfarelaw09.RouteLeast': WHATEVER THE INPUT: true; the input reads as it did. -/
def routeLeastSpec : ChangeSpec := { name := "routeLeast", fn := fun _ => fun
  | [d1, d2, d3, d4, d5] => { results := [.lit (.bool true)], args := [d1, d2, d3, d4, d5] }
  | _ => none }
def routeLeastRow : OpenClaim := { program := "ythoklgdlnmccmaa", sum := "32adb04286209aad7c1a9c86ea0b5202b5f2f6652012187fb2045b9ceee3d6a2", func := "wayfare/wayfarelaw09.RouteLeast", spec := "routeLeast", unfollowed := true, recurses := true, apart := false }
def RouteLeastSaid : Prop := routeLeastRow.holds Try.pinned (OpenSpec.ofChange routeLeastSpec)

/-- ITS FALSE NEIGHBOUR: 'it returns false'. Refute it at one input. -/
def routeLeastWrong : ChangeSpec := { name := "routeLeast", fn := fun _ => fun
  | [d1, d2, d3, d4, d5] => { results := [.lit (.bool false)], args := [d1, d2, d3, d4, d5] }
  | _ => none }
def RouteLeastWrongFalsely : Prop := routeLeastRow.holds Try.pinned (OpenSpec.ofChange routeLeastWrong)

/-- 'wayfarelaw09.RouteMore': WHATEVER THE INPUT: true; the input reads as it did. -/
def routeMoreSpec : ChangeSpec := { name := "routeMore", fn := fun _ => fun
  | [d1, d2, d3, d4, d5] => { results := [.lit (.bool true)], args := [d1, d2, d3, d4, d5] }
  | _ => none }
def routeMoreRow : OpenClaim := { program := "ythoklgdlnmccmaa", sum := "32adb04286209aad7c1a9c86ea0b5202b5f2f6652012187fb2045b9ceee3d6a2", func := "wayfare/wayfarelaw09.RouteMore", spec := "routeMore", unfollowed := true, recurses := true, apart := false }
def RouteMoreSaid : Prop := routeMoreRow.holds Try.pinned (OpenSpec.ofChange routeMoreSpec)

/-- ITS FALSE NEIGHBOUR: 'it returns false'. Refute it at one input. -/
def routeMoreWrong : ChangeSpec := { name := "routeMore", fn := fun _ => fun
  | [d1, d2, d3, d4, d5] => { results := [.lit (.bool false)], args := [d1, d2, d3, d4, d5] }
  | _ => none }
def RouteMoreWrongFalsely : Prop := routeMoreRow.holds Try.pinned (OpenSpec.ofChange routeMoreWrong)

/-- 'wayfarelaw09.RouteSearches': WHATEVER THE INPUT: true; the input reads as it did. -/
def routeSearchesSpec : ChangeSpec := { name := "routeSearches", fn := fun _ => fun
  | [d1, d2, d3] => { results := [.lit (.bool true)], args := [d1, d2, d3] }
  | _ => none }
def routeSearchesRow : OpenClaim := { program := "ythoklgdlnmccmaa", sum := "32adb04286209aad7c1a9c86ea0b5202b5f2f6652012187fb2045b9ceee3d6a2", func := "wayfare/wayfarelaw09.RouteSearches", spec := "routeSearches", unfollowed := true, recurses := true, apart := false }
def RouteSearchesSaid : Prop := routeSearchesRow.holds Try.pinned (OpenSpec.ofChange routeSearchesSpec)

/-- ITS FALSE NEIGHBOUR: 'it returns false'. Refute it at one input. -/
def routeSearchesWrong : ChangeSpec := { name := "routeSearches", fn := fun _ => fun
  | [d1, d2, d3] => { results := [.lit (.bool false)], args := [d1, d2, d3] }
  | _ => none }
def RouteSearchesWrongFalsely : Prop := routeSearchesRow.holds Try.pinned (OpenSpec.ofChange routeSearchesWrong)

/-- 'wayfarelaw09.RouteTrees': WHATEVER THE INPUT: true; the input reads as it did. -/
def routeTreesSpec : ChangeSpec := { name := "routeTrees", fn := fun _ => fun
  | [d1, d2, d3, d4] => { results := [.lit (.bool true)], args := [d1, d2, d3, d4] }
  | _ => none }
def routeTreesRow : OpenClaim := { program := "ythoklgdlnmccmaa", sum := "32adb04286209aad7c1a9c86ea0b5202b5f2f6652012187fb2045b9ceee3d6a2", func := "wayfare/wayfarelaw09.RouteTrees", spec := "routeTrees", unfollowed := true, recurses := true, apart := false }
def RouteTreesSaid : Prop := routeTreesRow.holds Try.pinned (OpenSpec.ofChange routeTreesSpec)

/-- ITS FALSE NEIGHBOUR: 'it returns false'. Refute it at one input. -/
def routeTreesWrong : ChangeSpec := { name := "routeTrees", fn := fun _ => fun
  | [d1, d2, d3, d4] => { results := [.lit (.bool false)], args := [d1, d2, d3, d4] }
  | _ => none }
def RouteTreesWrongFalsely : Prop := routeTreesRow.holds Try.pinned (OpenSpec.ofChange routeTreesWrong)

/-- 'wayfarelaw09.RouteWays': WHATEVER THE INPUT: true; the input reads as it did. -/
def routeWaysSpec : ChangeSpec := { name := "routeWays", fn := fun _ => fun
  | [d1, d2, d3] => { results := [.lit (.bool true)], args := [d1, d2, d3] }
  | _ => none }
def routeWaysRow : OpenClaim := { program := "ythoklgdlnmccmaa", sum := "32adb04286209aad7c1a9c86ea0b5202b5f2f6652012187fb2045b9ceee3d6a2", func := "wayfare/wayfarelaw09.RouteWays", spec := "routeWays", unfollowed := true, recurses := true, apart := false }
def RouteWaysSaid : Prop := routeWaysRow.holds Try.pinned (OpenSpec.ofChange routeWaysSpec)

/-- ITS FALSE NEIGHBOUR: 'it returns false'. Refute it at one input. -/
def routeWaysWrong : ChangeSpec := { name := "routeWays", fn := fun _ => fun
  | [d1, d2, d3] => { results := [.lit (.bool false)], args := [d1, d2, d3] }
  | _ => none }
def RouteWaysWrongFalsely : Prop := routeWaysRow.holds Try.pinned (OpenSpec.ofChange routeWaysWrong)

/-- 'wayfarelaw09.RouteTurned': WHATEVER THE INPUT: true; the input reads as it did. -/
def routeTurnedSpec : ChangeSpec := { name := "routeTurned", fn := fun _ => fun
  | [d1, d2, d3, d4] => { results := [.lit (.bool true)], args := [d1, d2, d3, d4] }
  | _ => none }
def routeTurnedRow : OpenClaim := { program := "ythoklgdlnmccmaa", sum := "32adb04286209aad7c1a9c86ea0b5202b5f2f6652012187fb2045b9ceee3d6a2", func := "wayfare/wayfarelaw09.RouteTurned", spec := "routeTurned", unfollowed := true, recurses := true, apart := false }
def RouteTurnedSaid : Prop := routeTurnedRow.holds Try.pinned (OpenSpec.ofChange routeTurnedSpec)

/-- ITS FALSE NEIGHBOUR: 'it returns false'. Refute it at one input. -/
def routeTurnedWrong : ChangeSpec := { name := "routeTurned", fn := fun _ => fun
  | [d1, d2, d3, d4] => { results := [.lit (.bool false)], args := [d1, d2, d3, d4] }
  | _ => none }
def RouteTurnedWrongFalsely : Prop := routeTurnedRow.holds Try.pinned (OpenSpec.ofChange routeTurnedWrong)

/-- 'wayfarelaw09.RouteFresh': WHATEVER THE INPUT: true; the input reads as it did. -/
def routeFreshSpec : ChangeSpec := { name := "routeFresh", fn := fun _ => fun
  | [d1, d2, d3, d4, d5] => { results := [.lit (.bool true)], args := [d1, d2, d3, d4, d5] }
  | _ => none }
def routeFreshRow : OpenClaim := { program := "ythoklgdlnmccmaa", sum := "32adb04286209aad7c1a9c86ea0b5202b5f2f6652012187fb2045b9ceee3d6a2", func := "wayfare/wayfarelaw09.RouteFresh", spec := "routeFresh", unfollowed := true, recurses := true, apart := false }
def RouteFreshSaid : Prop := routeFreshRow.holds Try.pinned (OpenSpec.ofChange routeFreshSpec)

/-- ITS FALSE NEIGHBOUR: 'it returns false'. Refute it at one input. -/
def routeFreshWrong : ChangeSpec := { name := "routeFresh", fn := fun _ => fun
  | [d1, d2, d3, d4, d5] => { results := [.lit (.bool false)], args := [d1, d2, d3, d4, d5] }
  | _ => none }
def RouteFreshWrongFalsely : Prop := routeFreshRow.holds Try.pinned (OpenSpec.ofChange routeFreshWrong)

/-- 'wayfaretop.TopBellman': WHATEVER THE INPUT: true; the input reads as it did. -/
def topBellmanSpec : ChangeSpec := { name := "topBellman", fn := fun _ => fun
  | [d1, d2, d3, d4] => { results := [.lit (.bool true)], args := [d1, d2, d3, d4] }
  | _ => none }
def topBellmanRow : OpenClaim := { program := "ythoklgdlnmccmaa", sum := "32adb04286209aad7c1a9c86ea0b5202b5f2f6652012187fb2045b9ceee3d6a2", func := "wayfare/wayfaretop.TopBellman", spec := "topBellman", unfollowed := true, recurses := true, apart := false }
def TopBellmanSaid : Prop := topBellmanRow.holds Try.pinned (OpenSpec.ofChange topBellmanSpec)

/-- ITS FALSE NEIGHBOUR: 'it returns false'. Refute it at one input. -/
def topBellmanWrong : ChangeSpec := { name := "topBellman", fn := fun _ => fun
  | [d1, d2, d3, d4] => { results := [.lit (.bool false)], args := [d1, d2, d3, d4] }
  | _ => none }
def TopBellmanWrongFalsely : Prop := topBellmanRow.holds Try.pinned (OpenSpec.ofChange topBellmanWrong)

/-- 'wayfarelaw10.VoucherMakes': WHATEVER THE INPUT: true; the input reads as it did. -/
def voucherMakesSpec : ChangeSpec := { name := "voucherMakes", fn := fun _ => fun
  | [d1, d2, d3] => { results := [.lit (.bool true)], args := [d1, d2, d3] }
  | _ => none }
def voucherMakesRow : OpenClaim := { program := "ythoklgdlnmccmaa", sum := "32adb04286209aad7c1a9c86ea0b5202b5f2f6652012187fb2045b9ceee3d6a2", func := "wayfare/wayfarelaw10.VoucherMakes", spec := "voucherMakes", unfollowed := true, recurses := true, apart := false }
def VoucherMakesSaid : Prop := voucherMakesRow.holds Try.pinned (OpenSpec.ofChange voucherMakesSpec)

/-- ITS FALSE NEIGHBOUR: 'it returns false'. Refute it at one input. -/
def voucherMakesWrong : ChangeSpec := { name := "voucherMakes", fn := fun _ => fun
  | [d1, d2, d3] => { results := [.lit (.bool false)], args := [d1, d2, d3] }
  | _ => none }
def VoucherMakesWrongFalsely : Prop := voucherMakesRow.holds Try.pinned (OpenSpec.ofChange voucherMakesWrong)

/-- 'wayfarelaw10.VoucherChecks': WHATEVER THE INPUT: true; the input reads as it did. -/
def voucherChecksSpec : ChangeSpec := { name := "voucherChecks", fn := fun _ => fun
  | [d1, d2, d3, d4] => { results := [.lit (.bool true)], args := [d1, d2, d3, d4] }
  | _ => none }
def voucherChecksRow : OpenClaim := { program := "ythoklgdlnmccmaa", sum := "32adb04286209aad7c1a9c86ea0b5202b5f2f6652012187fb2045b9ceee3d6a2", func := "wayfare/wayfarelaw10.VoucherChecks", spec := "voucherChecks", apart := false }
def VoucherChecksSaid : Prop := voucherChecksRow.holds Try.pinned (OpenSpec.ofChange voucherChecksSpec)

/-- ITS FALSE NEIGHBOUR: 'it returns false'. Refute it at one input. -/
def voucherChecksWrong : ChangeSpec := { name := "voucherChecks", fn := fun _ => fun
  | [d1, d2, d3, d4] => { results := [.lit (.bool false)], args := [d1, d2, d3, d4] }
  | _ => none }
def VoucherChecksWrongFalsely : Prop := voucherChecksRow.holds Try.pinned (OpenSpec.ofChange voucherChecksWrong)

/-- 'wayfarelaw10.VoucherProves': WHATEVER THE INPUT: true; the input reads as it did. -/
def voucherProvesSpec : ChangeSpec := { name := "voucherProves", fn := fun _ => fun
  | [d1, d2, d3, d4] => { results := [.lit (.bool true)], args := [d1, d2, d3, d4] }
  | _ => none }
def voucherProvesRow : OpenClaim := { program := "ythoklgdlnmccmaa", sum := "32adb04286209aad7c1a9c86ea0b5202b5f2f6652012187fb2045b9ceee3d6a2", func := "wayfare/wayfarelaw10.VoucherProves", spec := "voucherProves", unfollowed := true, recurses := true, apart := false }
def VoucherProvesSaid : Prop := voucherProvesRow.holds Try.pinned (OpenSpec.ofChange voucherProvesSpec)

/-- ITS FALSE NEIGHBOUR: 'it returns false'. Refute it at one input. -/
def voucherProvesWrong : ChangeSpec := { name := "voucherProves", fn := fun _ => fun
  | [d1, d2, d3, d4] => { results := [.lit (.bool false)], args := [d1, d2, d3, d4] }
  | _ => none }
def VoucherProvesWrongFalsely : Prop := voucherProvesRow.holds Try.pinned (OpenSpec.ofChange voucherProvesWrong)

/-- 'wayfarelaw10.VoucherHolds': WHATEVER THE INPUT: true; the input reads as it did. -/
def voucherHoldsSpec : ChangeSpec := { name := "voucherHolds", fn := fun _ => fun
  | [d1, d2, d3, d4, d5] => { results := [.lit (.bool true)], args := [d1, d2, d3, d4, d5] }
  | _ => none }
def voucherHoldsRow : OpenClaim := { program := "ythoklgdlnmccmaa", sum := "32adb04286209aad7c1a9c86ea0b5202b5f2f6652012187fb2045b9ceee3d6a2", func := "wayfare/wayfarelaw10.VoucherHolds", spec := "voucherHolds", unfollowed := true, recurses := true, apart := false }
def VoucherHoldsSaid : Prop := voucherHoldsRow.holds Try.pinned (OpenSpec.ofChange voucherHoldsSpec)

/-- ITS FALSE NEIGHBOUR: 'it returns false'. Refute it at one input. -/
def voucherHoldsWrong : ChangeSpec := { name := "voucherHolds", fn := fun _ => fun
  | [d1, d2, d3, d4, d5] => { results := [.lit (.bool false)], args := [d1, d2, d3, d4, d5] }
  | _ => none }
def VoucherHoldsWrongFalsely : Prop := voucherHoldsRow.holds Try.pinned (OpenSpec.ofChange voucherHoldsWrong)

/- THE SECOND FORM. 'bulk': how many values and letters a reading holds, each counted each time it is reached (what is shared counts as often as it is met; a slice's spare places count too). A statement '..UptoSaid' is the law's where the arguments, and the package variables that the reading takes, are together of bulk at most 1048576: NARROWER than '..Said'. Prove '..Said' where nothing that the law and all that it calls make is longer than what came in: it says more and counts as full. Else prove '..UptoSaid'. A law counts once. -/
mutual
def uptoBulk {H : Type} : DataW H → Nat
  | .lit (.string bytes) => bytes.length + 1
  | .lit _ => 1
  | .nil => 1
  | .ptr d => uptoBulk d + 1
  | .slice elems spare => uptoBulkAll elems + uptoBulkAll spare + 1
  | .agg parts => uptoBulkAll parts + 1
  | .iface _ d => uptoBulk d + 1
  | .map entries => uptoBulkEntries entries + 1
  | .held _ => 1
def uptoBulkAll {H : Type} : List (DataW H) → Nat
  | [] => 0
  | d :: r => uptoBulk d + uptoBulkAll r
def uptoBulkEntries {H : Type} : List (Lit × DataW H) → Nat
  | [] => 0
  | x :: r => uptoBulkEntry x + uptoBulkEntries r
def uptoBulkEntry {H : Type} : Lit × DataW H → Nat
  | (.string bytes, d) => bytes.length + uptoBulk d + 1
  | (_, d) => uptoBulk d + 1
 end
def uptoSmall : (H : Type) → List (DataW H) → Bool := fun _ ds => decide (uptoBulkAll ds ≤ 1048576)
def OpenSpec.upto (s : _root_.Go.ChangeSpec) : _root_.Go.OpenSpec := { _root_.Go.OpenSpec.ofChange s with cond := some uptoSmall }

/-- 'wayfarelaw09.RouteExtends', WHERE WHAT IT READS IS OF BULK AT MOST 1048576: true; the input reads as it did. -/
def routeExtendsUptoRow : OpenClaim := { program := "ythoklgdlnmccmaa", sum := "32adb04286209aad7c1a9c86ea0b5202b5f2f6652012187fb2045b9ceee3d6a2", func := "wayfare/wayfarelaw09.RouteExtends", spec := "routeExtends", apart := false, narrowed := true }
def RouteExtendsUptoSaid : Prop := routeExtendsUptoRow.holds Try.pinned (OpenSpec.upto routeExtendsSpec)

/-- 'wayfarelaw09.RouteStarts', WHERE WHAT IT READS IS OF BULK AT MOST 1048576: true; the input reads as it did. -/
def routeStartsUptoRow : OpenClaim := { program := "ythoklgdlnmccmaa", sum := "32adb04286209aad7c1a9c86ea0b5202b5f2f6652012187fb2045b9ceee3d6a2", func := "wayfare/wayfarelaw09.RouteStarts", spec := "routeStarts", apart := false, narrowed := true }
def RouteStartsUptoSaid : Prop := routeStartsUptoRow.holds Try.pinned (OpenSpec.upto routeStartsSpec)

/-- 'wayfarelaw09.RoutePaths', WHERE WHAT IT READS IS OF BULK AT MOST 1048576: true; the input reads as it did. -/
def routePathsUptoRow : OpenClaim := { program := "ythoklgdlnmccmaa", sum := "32adb04286209aad7c1a9c86ea0b5202b5f2f6652012187fb2045b9ceee3d6a2", func := "wayfare/wayfarelaw09.RoutePaths", spec := "routePaths", apart := false, narrowed := true }
def RoutePathsUptoSaid : Prop := routePathsUptoRow.holds Try.pinned (OpenSpec.upto routePathsSpec)

/-- 'wayfarelaw09.RouteLengths', WHERE WHAT IT READS IS OF BULK AT MOST 1048576: true; the input reads as it did. -/
def routeLengthsUptoRow : OpenClaim := { program := "ythoklgdlnmccmaa", sum := "32adb04286209aad7c1a9c86ea0b5202b5f2f6652012187fb2045b9ceee3d6a2", func := "wayfare/wayfarelaw09.RouteLengths", spec := "routeLengths", apart := false, narrowed := true }
def RouteLengthsUptoSaid : Prop := routeLengthsUptoRow.holds Try.pinned (OpenSpec.upto routeLengthsSpec)

/-- 'wayfarelaw09.RouteLeast', WHERE WHAT IT READS IS OF BULK AT MOST 1048576: true; the input reads as it did. -/
def routeLeastUptoRow : OpenClaim := { program := "ythoklgdlnmccmaa", sum := "32adb04286209aad7c1a9c86ea0b5202b5f2f6652012187fb2045b9ceee3d6a2", func := "wayfare/wayfarelaw09.RouteLeast", spec := "routeLeast", unfollowed := true, recurses := true, apart := false, narrowed := true }
def RouteLeastUptoSaid : Prop := routeLeastUptoRow.holds Try.pinned (OpenSpec.upto routeLeastSpec)

/-- 'wayfarelaw09.RouteMore', WHERE WHAT IT READS IS OF BULK AT MOST 1048576: true; the input reads as it did. -/
def routeMoreUptoRow : OpenClaim := { program := "ythoklgdlnmccmaa", sum := "32adb04286209aad7c1a9c86ea0b5202b5f2f6652012187fb2045b9ceee3d6a2", func := "wayfare/wayfarelaw09.RouteMore", spec := "routeMore", unfollowed := true, recurses := true, apart := false, narrowed := true }
def RouteMoreUptoSaid : Prop := routeMoreUptoRow.holds Try.pinned (OpenSpec.upto routeMoreSpec)

/-- 'wayfarelaw09.RouteSearches', WHERE WHAT IT READS IS OF BULK AT MOST 1048576: true; the input reads as it did. -/
def routeSearchesUptoRow : OpenClaim := { program := "ythoklgdlnmccmaa", sum := "32adb04286209aad7c1a9c86ea0b5202b5f2f6652012187fb2045b9ceee3d6a2", func := "wayfare/wayfarelaw09.RouteSearches", spec := "routeSearches", unfollowed := true, recurses := true, apart := false, narrowed := true }
def RouteSearchesUptoSaid : Prop := routeSearchesUptoRow.holds Try.pinned (OpenSpec.upto routeSearchesSpec)

/-- 'wayfarelaw09.RouteTrees', WHERE WHAT IT READS IS OF BULK AT MOST 1048576: true; the input reads as it did. -/
def routeTreesUptoRow : OpenClaim := { program := "ythoklgdlnmccmaa", sum := "32adb04286209aad7c1a9c86ea0b5202b5f2f6652012187fb2045b9ceee3d6a2", func := "wayfare/wayfarelaw09.RouteTrees", spec := "routeTrees", unfollowed := true, recurses := true, apart := false, narrowed := true }
def RouteTreesUptoSaid : Prop := routeTreesUptoRow.holds Try.pinned (OpenSpec.upto routeTreesSpec)

/-- 'wayfarelaw09.RouteWays', WHERE WHAT IT READS IS OF BULK AT MOST 1048576: true; the input reads as it did. -/
def routeWaysUptoRow : OpenClaim := { program := "ythoklgdlnmccmaa", sum := "32adb04286209aad7c1a9c86ea0b5202b5f2f6652012187fb2045b9ceee3d6a2", func := "wayfare/wayfarelaw09.RouteWays", spec := "routeWays", unfollowed := true, recurses := true, apart := false, narrowed := true }
def RouteWaysUptoSaid : Prop := routeWaysUptoRow.holds Try.pinned (OpenSpec.upto routeWaysSpec)

/-- 'wayfarelaw09.RouteTurned', WHERE WHAT IT READS IS OF BULK AT MOST 1048576: true; the input reads as it did. -/
def routeTurnedUptoRow : OpenClaim := { program := "ythoklgdlnmccmaa", sum := "32adb04286209aad7c1a9c86ea0b5202b5f2f6652012187fb2045b9ceee3d6a2", func := "wayfare/wayfarelaw09.RouteTurned", spec := "routeTurned", unfollowed := true, recurses := true, apart := false, narrowed := true }
def RouteTurnedUptoSaid : Prop := routeTurnedUptoRow.holds Try.pinned (OpenSpec.upto routeTurnedSpec)

/-- 'wayfarelaw09.RouteFresh', WHERE WHAT IT READS IS OF BULK AT MOST 1048576: true; the input reads as it did. -/
def routeFreshUptoRow : OpenClaim := { program := "ythoklgdlnmccmaa", sum := "32adb04286209aad7c1a9c86ea0b5202b5f2f6652012187fb2045b9ceee3d6a2", func := "wayfare/wayfarelaw09.RouteFresh", spec := "routeFresh", unfollowed := true, recurses := true, apart := false, narrowed := true }
def RouteFreshUptoSaid : Prop := routeFreshUptoRow.holds Try.pinned (OpenSpec.upto routeFreshSpec)

/-- 'wayfaretop.TopBellman', WHERE WHAT IT READS IS OF BULK AT MOST 1048576: true; the input reads as it did. -/
def topBellmanUptoRow : OpenClaim := { program := "ythoklgdlnmccmaa", sum := "32adb04286209aad7c1a9c86ea0b5202b5f2f6652012187fb2045b9ceee3d6a2", func := "wayfare/wayfaretop.TopBellman", spec := "topBellman", unfollowed := true, recurses := true, apart := false, narrowed := true }
def TopBellmanUptoSaid : Prop := topBellmanUptoRow.holds Try.pinned (OpenSpec.upto topBellmanSpec)

/-- 'wayfarelaw10.VoucherMakes', WHERE WHAT IT READS IS OF BULK AT MOST 1048576: true; the input reads as it did. -/
def voucherMakesUptoRow : OpenClaim := { program := "ythoklgdlnmccmaa", sum := "32adb04286209aad7c1a9c86ea0b5202b5f2f6652012187fb2045b9ceee3d6a2", func := "wayfare/wayfarelaw10.VoucherMakes", spec := "voucherMakes", unfollowed := true, recurses := true, apart := false, narrowed := true }
def VoucherMakesUptoSaid : Prop := voucherMakesUptoRow.holds Try.pinned (OpenSpec.upto voucherMakesSpec)

/-- 'wayfarelaw10.VoucherChecks', WHERE WHAT IT READS IS OF BULK AT MOST 1048576: true; the input reads as it did. -/
def voucherChecksUptoRow : OpenClaim := { program := "ythoklgdlnmccmaa", sum := "32adb04286209aad7c1a9c86ea0b5202b5f2f6652012187fb2045b9ceee3d6a2", func := "wayfare/wayfarelaw10.VoucherChecks", spec := "voucherChecks", apart := false, narrowed := true }
def VoucherChecksUptoSaid : Prop := voucherChecksUptoRow.holds Try.pinned (OpenSpec.upto voucherChecksSpec)

/-- 'wayfarelaw10.VoucherProves', WHERE WHAT IT READS IS OF BULK AT MOST 1048576: true; the input reads as it did. -/
def voucherProvesUptoRow : OpenClaim := { program := "ythoklgdlnmccmaa", sum := "32adb04286209aad7c1a9c86ea0b5202b5f2f6652012187fb2045b9ceee3d6a2", func := "wayfare/wayfarelaw10.VoucherProves", spec := "voucherProves", unfollowed := true, recurses := true, apart := false, narrowed := true }
def VoucherProvesUptoSaid : Prop := voucherProvesUptoRow.holds Try.pinned (OpenSpec.upto voucherProvesSpec)

/-- 'wayfarelaw10.VoucherHolds', WHERE WHAT IT READS IS OF BULK AT MOST 1048576: true; the input reads as it did. -/
def voucherHoldsUptoRow : OpenClaim := { program := "ythoklgdlnmccmaa", sum := "32adb04286209aad7c1a9c86ea0b5202b5f2f6652012187fb2045b9ceee3d6a2", func := "wayfare/wayfarelaw10.VoucherHolds", spec := "voucherHolds", unfollowed := true, recurses := true, apart := false, narrowed := true }
def VoucherHoldsUptoSaid : Prop := voucherHoldsUptoRow.holds Try.pinned (OpenSpec.upto voucherHoldsSpec)

end Rows
end Go.Proofs.Ythoklgdlnmccmaa
