/-
  No cell of these rows narrows 'for every input' (looked for: loops, veiled, ifaces, maps, wideKeys, modest, calm, conditions, laid).
  DERIVED. THE GIVEN ROWS OF THIS SEAT. 8 by the template 'for every input the law returns true; each argument reads behind the call as it read before'; 0 by the template 'total and deterministic' (their statements: YteblkbneghbcbaaTotals.lean).
  GIVEN WITH THE SEED: the statements are not yours to turn. If you find one false, say at which input.
  Laid BY PROGRAM, IN A SANDBOX (cutbox-rows.mjs): the forced cells as the released guide's own fill.sh prints them over the translation 4dc3aedea2f8de35… (all of the seat's roots in one cut). By AI agents, Wed Nov 11 2026. No macro, syntax, notation, axiom, sorry.
-/
import Derived.Test.YteblkbneghbcbaaChecked
import GoSem.Claim
import GoSem.ClaimJoined
import GoSem.ClaimMapViews
import Derived.JoinedTies
import Derived.KernelRfl
namespace Go.Proofs.Yteblkbneghbcbaa
/- THE CELL 'sum', in the pinned program and in every row, IS THE sha256 OF THE DUMP (.gsa) THAT YteblkbneghbcbaaProg.lean LOADS. Nothing in Lean hashes anything: it is a label: what it is worth is what the hold of that sum in a sandbox is worth. -/
noncomputable def Try.pinned : Pinned := { name := "yteblkbneghbcbaa", sum := "4dc3aedea2f8de35183dd326a81694d62229cfa97be39eda3dc8d4fbe64bc455", checked := Try.checked }
namespace Rows
def none {H : Type} : Left H := { results := [], args := [] }

/-- 'wayfarelaw21.StrongParts': WHATEVER THE INPUT: true; the input reads as it did. -/
def strongPartsSpec : ChangeSpec := { name := "strongParts", fn := fun _ => fun
  | [d] => { results := [.lit (.bool true)], args := [d] }
  | _ => none }
def strongPartsRow : OpenClaim := { program := "yteblkbneghbcbaa", sum := "4dc3aedea2f8de35183dd326a81694d62229cfa97be39eda3dc8d4fbe64bc455", func := "wayfare/wayfarelaw21.StrongParts", spec := "strongParts", unfollowed := true, recurses := true, plainKeys := false, apart := false }
def StrongPartsSaid : Prop := strongPartsRow.holds Try.pinned (OpenSpec.ofChange strongPartsSpec)

/-- ITS FALSE NEIGHBOUR: 'it returns false'. Refute it at one input. -/
def strongPartsWrong : ChangeSpec := { name := "strongParts", fn := fun _ => fun
  | [d] => { results := [.lit (.bool false)], args := [d] }
  | _ => none }
def StrongPartsWrongFalsely : Prop := strongPartsRow.holds Try.pinned (OpenSpec.ofChange strongPartsWrong)

/-- 'wayfarelaw21.StrongCondenses': WHATEVER THE INPUT: true; the input reads as it did. -/
def strongCondensesSpec : ChangeSpec := { name := "strongCondenses", fn := fun _ => fun
  | [d] => { results := [.lit (.bool true)], args := [d] }
  | _ => none }
def strongCondensesRow : OpenClaim := { program := "yteblkbneghbcbaa", sum := "4dc3aedea2f8de35183dd326a81694d62229cfa97be39eda3dc8d4fbe64bc455", func := "wayfare/wayfarelaw21.StrongCondenses", spec := "strongCondenses", unfollowed := true, recurses := true, plainKeys := false, apart := false }
def StrongCondensesSaid : Prop := strongCondensesRow.holds Try.pinned (OpenSpec.ofChange strongCondensesSpec)

/-- ITS FALSE NEIGHBOUR: 'it returns false'. Refute it at one input. -/
def strongCondensesWrong : ChangeSpec := { name := "strongCondenses", fn := fun _ => fun
  | [d] => { results := [.lit (.bool false)], args := [d] }
  | _ => none }
def StrongCondensesWrongFalsely : Prop := strongCondensesRow.holds Try.pinned (OpenSpec.ofChange strongCondensesWrong)

/-- 'wayfarelaw21.StrongOrders': WHATEVER THE INPUT: true; the input reads as it did. -/
def strongOrdersSpec : ChangeSpec := { name := "strongOrders", fn := fun _ => fun
  | [d] => { results := [.lit (.bool true)], args := [d] }
  | _ => none }
def strongOrdersRow : OpenClaim := { program := "yteblkbneghbcbaa", sum := "4dc3aedea2f8de35183dd326a81694d62229cfa97be39eda3dc8d4fbe64bc455", func := "wayfare/wayfarelaw21.StrongOrders", spec := "strongOrders", unfollowed := true, recurses := true, plainKeys := false, apart := false }
def StrongOrdersSaid : Prop := strongOrdersRow.holds Try.pinned (OpenSpec.ofChange strongOrdersSpec)

/-- ITS FALSE NEIGHBOUR: 'it returns false'. Refute it at one input. -/
def strongOrdersWrong : ChangeSpec := { name := "strongOrders", fn := fun _ => fun
  | [d] => { results := [.lit (.bool false)], args := [d] }
  | _ => none }
def StrongOrdersWrongFalsely : Prop := strongOrdersRow.holds Try.pinned (OpenSpec.ofChange strongOrdersWrong)

/-- 'wayfarelaw21.StrongCircles': WHATEVER THE INPUT: true; the input reads as it did. -/
def strongCirclesSpec : ChangeSpec := { name := "strongCircles", fn := fun _ => fun
  | [d] => { results := [.lit (.bool true)], args := [d] }
  | _ => none }
def strongCirclesRow : OpenClaim := { program := "yteblkbneghbcbaa", sum := "4dc3aedea2f8de35183dd326a81694d62229cfa97be39eda3dc8d4fbe64bc455", func := "wayfare/wayfarelaw21.StrongCircles", spec := "strongCircles", unfollowed := true, recurses := true, plainKeys := false, apart := false }
def StrongCirclesSaid : Prop := strongCirclesRow.holds Try.pinned (OpenSpec.ofChange strongCirclesSpec)

/-- ITS FALSE NEIGHBOUR: 'it returns false'. Refute it at one input. -/
def strongCirclesWrong : ChangeSpec := { name := "strongCircles", fn := fun _ => fun
  | [d] => { results := [.lit (.bool false)], args := [d] }
  | _ => none }
def StrongCirclesWrongFalsely : Prop := strongCirclesRow.holds Try.pinned (OpenSpec.ofChange strongCirclesWrong)

/-- 'wayfarelaw21.StrongBoth': WHATEVER THE INPUT: true; the input reads as it did. -/
def strongBothSpec : ChangeSpec := { name := "strongBoth", fn := fun _ => fun
  | [d] => { results := [.lit (.bool true)], args := [d] }
  | _ => none }
def strongBothRow : OpenClaim := { program := "yteblkbneghbcbaa", sum := "4dc3aedea2f8de35183dd326a81694d62229cfa97be39eda3dc8d4fbe64bc455", func := "wayfare/wayfarelaw21.StrongBoth", spec := "strongBoth", unfollowed := true, recurses := true, plainKeys := false, apart := false }
def StrongBothSaid : Prop := strongBothRow.holds Try.pinned (OpenSpec.ofChange strongBothSpec)

/-- ITS FALSE NEIGHBOUR: 'it returns false'. Refute it at one input. -/
def strongBothWrong : ChangeSpec := { name := "strongBoth", fn := fun _ => fun
  | [d] => { results := [.lit (.bool false)], args := [d] }
  | _ => none }
def StrongBothWrongFalsely : Prop := strongBothRow.holds Try.pinned (OpenSpec.ofChange strongBothWrong)

/-- 'wayfarelaw21.StrongKernel': WHATEVER THE INPUT: true; the input reads as it did. -/
def strongKernelSpec : ChangeSpec := { name := "strongKernel", fn := fun _ => fun
  | [d] => { results := [.lit (.bool true)], args := [d] }
  | _ => none }
def strongKernelRow : OpenClaim := { program := "yteblkbneghbcbaa", sum := "4dc3aedea2f8de35183dd326a81694d62229cfa97be39eda3dc8d4fbe64bc455", func := "wayfare/wayfarelaw21.StrongKernel", spec := "strongKernel", unfollowed := true, recurses := true, plainKeys := false, apart := false }
def StrongKernelSaid : Prop := strongKernelRow.holds Try.pinned (OpenSpec.ofChange strongKernelSpec)

/-- ITS FALSE NEIGHBOUR: 'it returns false'. Refute it at one input. -/
def strongKernelWrong : ChangeSpec := { name := "strongKernel", fn := fun _ => fun
  | [d] => { results := [.lit (.bool false)], args := [d] }
  | _ => none }
def StrongKernelWrongFalsely : Prop := strongKernelRow.holds Try.pinned (OpenSpec.ofChange strongKernelWrong)

/-- 'wayfarelaw21.StrongForward': WHATEVER THE INPUT: true; the input reads as it did. -/
def strongForwardSpec : ChangeSpec := { name := "strongForward", fn := fun _ => fun
  | [d] => { results := [.lit (.bool true)], args := [d] }
  | _ => none }
def strongForwardRow : OpenClaim := { program := "yteblkbneghbcbaa", sum := "4dc3aedea2f8de35183dd326a81694d62229cfa97be39eda3dc8d4fbe64bc455", func := "wayfare/wayfarelaw21.StrongForward", spec := "strongForward", unfollowed := true, recurses := true, plainKeys := false, apart := false }
def StrongForwardSaid : Prop := strongForwardRow.holds Try.pinned (OpenSpec.ofChange strongForwardSpec)

/-- ITS FALSE NEIGHBOUR: 'it returns false'. Refute it at one input. -/
def strongForwardWrong : ChangeSpec := { name := "strongForward", fn := fun _ => fun
  | [d] => { results := [.lit (.bool false)], args := [d] }
  | _ => none }
def StrongForwardWrongFalsely : Prop := strongForwardRow.holds Try.pinned (OpenSpec.ofChange strongForwardWrong)

/-- 'wayfarelaw21.StrongFresh': WHATEVER THE INPUT: true; the input reads as it did. -/
def strongFreshSpec : ChangeSpec := { name := "strongFresh", fn := fun _ => fun
  | [d] => { results := [.lit (.bool true)], args := [d] }
  | _ => none }
def strongFreshRow : OpenClaim := { program := "yteblkbneghbcbaa", sum := "4dc3aedea2f8de35183dd326a81694d62229cfa97be39eda3dc8d4fbe64bc455", func := "wayfare/wayfarelaw21.StrongFresh", spec := "strongFresh", unfollowed := true, recurses := true, plainKeys := false, apart := false }
def StrongFreshSaid : Prop := strongFreshRow.holds Try.pinned (OpenSpec.ofChange strongFreshSpec)

/-- ITS FALSE NEIGHBOUR: 'it returns false'. Refute it at one input. -/
def strongFreshWrong : ChangeSpec := { name := "strongFresh", fn := fun _ => fun
  | [d] => { results := [.lit (.bool false)], args := [d] }
  | _ => none }
def StrongFreshWrongFalsely : Prop := strongFreshRow.holds Try.pinned (OpenSpec.ofChange strongFreshWrong)

/- THE SECOND FORM. 'bulk': how many values and letters a reading holds, each counted each time it is reached (what is shared counts as often as it is met; a slice's spare places count too). A statement '..UptoSaid' is the law's where the arguments, and the package variables that the reading takes, are together of bulk at most 1048576: NARROWER than '..Said'. Prove '..Said' where nothing that the law and all that it calls make is longer than what came in: it says more and counts as full. Else prove '..UptoSaid'. A law counts once. -/
mutual
def uptoBulk {H : Type} : DataW H → Nat
  | .lit (.string bytes) => bytes.length + 1
  | .lit _ => 1
  | .nil => 1
  | .ptr d => uptoBulk d + 1
  | .slice elems spare => uptoBulkAll elems + uptoBulkAll spare + 1
  | .agg parts => uptoBulkAll parts + 1
  | .iface _ d => uptoBulk d + 1
  | .map entries => uptoBulkEntries entries + 1
  | .held _ => 1
def uptoBulkAll {H : Type} : List (DataW H) → Nat
  | [] => 0
  | d :: r => uptoBulk d + uptoBulkAll r
def uptoBulkEntries {H : Type} : List (Lit × DataW H) → Nat
  | [] => 0
  | x :: r => uptoBulkEntry x + uptoBulkEntries r
def uptoBulkEntry {H : Type} : Lit × DataW H → Nat
  | (.string bytes, d) => bytes.length + uptoBulk d + 1
  | (_, d) => uptoBulk d + 1
 end
def uptoSmall : (H : Type) → List (DataW H) → Bool := fun _ ds => decide (uptoBulkAll ds ≤ 1048576)
def OpenSpec.upto (s : _root_.Go.ChangeSpec) : _root_.Go.OpenSpec := { _root_.Go.OpenSpec.ofChange s with cond := some uptoSmall }

/-- 'wayfarelaw21.StrongParts', WHERE WHAT IT READS IS OF BULK AT MOST 1048576: true; the input reads as it did. -/
def strongPartsUptoRow : OpenClaim := { program := "yteblkbneghbcbaa", sum := "4dc3aedea2f8de35183dd326a81694d62229cfa97be39eda3dc8d4fbe64bc455", func := "wayfare/wayfarelaw21.StrongParts", spec := "strongParts", unfollowed := true, recurses := true, plainKeys := false, apart := false, narrowed := true }
def StrongPartsUptoSaid : Prop := strongPartsUptoRow.holds Try.pinned (OpenSpec.upto strongPartsSpec)

/-- 'wayfarelaw21.StrongCondenses', WHERE WHAT IT READS IS OF BULK AT MOST 1048576: true; the input reads as it did. -/
def strongCondensesUptoRow : OpenClaim := { program := "yteblkbneghbcbaa", sum := "4dc3aedea2f8de35183dd326a81694d62229cfa97be39eda3dc8d4fbe64bc455", func := "wayfare/wayfarelaw21.StrongCondenses", spec := "strongCondenses", unfollowed := true, recurses := true, plainKeys := false, apart := false, narrowed := true }
def StrongCondensesUptoSaid : Prop := strongCondensesUptoRow.holds Try.pinned (OpenSpec.upto strongCondensesSpec)

/-- 'wayfarelaw21.StrongOrders', WHERE WHAT IT READS IS OF BULK AT MOST 1048576: true; the input reads as it did. -/
def strongOrdersUptoRow : OpenClaim := { program := "yteblkbneghbcbaa", sum := "4dc3aedea2f8de35183dd326a81694d62229cfa97be39eda3dc8d4fbe64bc455", func := "wayfare/wayfarelaw21.StrongOrders", spec := "strongOrders", unfollowed := true, recurses := true, plainKeys := false, apart := false, narrowed := true }
def StrongOrdersUptoSaid : Prop := strongOrdersUptoRow.holds Try.pinned (OpenSpec.upto strongOrdersSpec)

/-- 'wayfarelaw21.StrongCircles', WHERE WHAT IT READS IS OF BULK AT MOST 1048576: true; the input reads as it did. -/
def strongCirclesUptoRow : OpenClaim := { program := "yteblkbneghbcbaa", sum := "4dc3aedea2f8de35183dd326a81694d62229cfa97be39eda3dc8d4fbe64bc455", func := "wayfare/wayfarelaw21.StrongCircles", spec := "strongCircles", unfollowed := true, recurses := true, plainKeys := false, apart := false, narrowed := true }
def StrongCirclesUptoSaid : Prop := strongCirclesUptoRow.holds Try.pinned (OpenSpec.upto strongCirclesSpec)

/-- 'wayfarelaw21.StrongBoth', WHERE WHAT IT READS IS OF BULK AT MOST 1048576: true; the input reads as it did. -/
def strongBothUptoRow : OpenClaim := { program := "yteblkbneghbcbaa", sum := "4dc3aedea2f8de35183dd326a81694d62229cfa97be39eda3dc8d4fbe64bc455", func := "wayfare/wayfarelaw21.StrongBoth", spec := "strongBoth", unfollowed := true, recurses := true, plainKeys := false, apart := false, narrowed := true }
def StrongBothUptoSaid : Prop := strongBothUptoRow.holds Try.pinned (OpenSpec.upto strongBothSpec)

/-- 'wayfarelaw21.StrongKernel', WHERE WHAT IT READS IS OF BULK AT MOST 1048576: true; the input reads as it did. -/
def strongKernelUptoRow : OpenClaim := { program := "yteblkbneghbcbaa", sum := "4dc3aedea2f8de35183dd326a81694d62229cfa97be39eda3dc8d4fbe64bc455", func := "wayfare/wayfarelaw21.StrongKernel", spec := "strongKernel", unfollowed := true, recurses := true, plainKeys := false, apart := false, narrowed := true }
def StrongKernelUptoSaid : Prop := strongKernelUptoRow.holds Try.pinned (OpenSpec.upto strongKernelSpec)

/-- 'wayfarelaw21.StrongForward', WHERE WHAT IT READS IS OF BULK AT MOST 1048576: true; the input reads as it did. -/
def strongForwardUptoRow : OpenClaim := { program := "yteblkbneghbcbaa", sum := "4dc3aedea2f8de35183dd326a81694d62229cfa97be39eda3dc8d4fbe64bc455", func := "wayfare/wayfarelaw21.StrongForward", spec := "strongForward", unfollowed := true, recurses := true, plainKeys := false, apart := false, narrowed := true }
def StrongForwardUptoSaid : Prop := strongForwardUptoRow.holds Try.pinned (OpenSpec.upto strongForwardSpec)

/-- 'wayfarelaw21.StrongFresh', WHERE WHAT IT READS IS OF BULK AT MOST 1048576: true; the input reads as it did. -/
def strongFreshUptoRow : OpenClaim := { program := "yteblkbneghbcbaa", sum := "4dc3aedea2f8de35183dd326a81694d62229cfa97be39eda3dc8d4fbe64bc455", func := "wayfare/wayfarelaw21.StrongFresh", spec := "strongFresh", unfollowed := true, recurses := true, plainKeys := false, apart := false, narrowed := true }
def StrongFreshUptoSaid : Prop := strongFreshUptoRow.holds Try.pinned (OpenSpec.upto strongFreshSpec)

end Rows
end Go.Proofs.Yteblkbneghbcbaa
