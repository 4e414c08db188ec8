/-
  No cell of these rows narrows 'for every input' (looked for: loops, veiled, ifaces, maps, wideKeys, modest, calm, conditions, laid).
  DERIVED. THE GIVEN ROWS OF THIS SEAT. 7 by the template 'for every input the law returns true; each argument reads behind the call as it read before'; 0 by the template 'total and deterministic' (their statements: YtehlciejhegndaaTotals.lean).
  GIVEN WITH THE SEED: the statements are not yours to turn. If you find one false, say at which input.
  Laid BY PROGRAM, IN A SANDBOX (cutbox-rows.mjs): the forced cells as the released guide's own fill.sh prints them over the translation 6c09e1285a7d7fc1… (all of the seat's roots in one cut). By AI agents, Wed Nov 11 2026. No macro, syntax, notation, axiom, sorry.
-/
import Derived.Test.YtehlciejhegndaaChecked
import GoSem.Claim
import GoSem.ClaimJoined
import GoSem.ClaimMapViews
import Derived.JoinedTies
import Derived.KernelRfl
namespace Go.Proofs.Ytehlciejhegndaa
/- THE CELL 'sum', in the pinned program and in every row, IS THE sha256 OF THE DUMP (.gsa) THAT YtehlciejhegndaaProg.lean LOADS. Nothing in Lean hashes anything: it is a label: what it is worth is what the hold of that sum in a sandbox is worth. -/
noncomputable def Try.pinned : Pinned := { name := "ytehlciejhegndaa", sum := "6c09e1285a7d7fc18373067fa8dd9d0f623ca3f8d0d753e67f69949ab3ea1c0d", checked := Try.checked }
namespace Rows
def none {H : Type} : Left H := { results := [], args := [] }

/-- 'wayfarelaw22.SeekBoths': WHATEVER THE INPUT: true; the input reads as it did. -/
def seekBothsSpec : ChangeSpec := { name := "seekBoths", fn := fun _ => fun
  | [d1, d2, d3, d4] => { results := [.lit (.bool true)], args := [d1, d2, d3, d4] }
  | _ => none }
def seekBothsRow : OpenClaim := { program := "ytehlciejhegndaa", sum := "6c09e1285a7d7fc18373067fa8dd9d0f623ca3f8d0d753e67f69949ab3ea1c0d", func := "wayfare/wayfarelaw22.SeekBoths", spec := "seekBoths", unfollowed := true, recurses := true, apart := false }
def SeekBothsSaid : Prop := seekBothsRow.holds Try.pinned (OpenSpec.ofChange seekBothsSpec)

/-- ITS FALSE NEIGHBOUR: 'it returns false'. Refute it at one input. -/
def seekBothsWrong : ChangeSpec := { name := "seekBoths", fn := fun _ => fun
  | [d1, d2, d3, d4] => { results := [.lit (.bool false)], args := [d1, d2, d3, d4] }
  | _ => none }
def SeekBothsWrongFalsely : Prop := seekBothsRow.holds Try.pinned (OpenSpec.ofChange seekBothsWrong)

/-- 'wayfarelaw22.SeekAgree': WHATEVER THE INPUT: true; the input reads as it did. -/
def seekAgreeSpec : ChangeSpec := { name := "seekAgree", fn := fun _ => fun
  | [d1, d2, d3, d4] => { results := [.lit (.bool true)], args := [d1, d2, d3, d4] }
  | _ => none }
def seekAgreeRow : OpenClaim := { program := "ytehlciejhegndaa", sum := "6c09e1285a7d7fc18373067fa8dd9d0f623ca3f8d0d753e67f69949ab3ea1c0d", func := "wayfare/wayfarelaw22.SeekAgree", spec := "seekAgree", unfollowed := true, recurses := true, apart := false }
def SeekAgreeSaid : Prop := seekAgreeRow.holds Try.pinned (OpenSpec.ofChange seekAgreeSpec)

/-- ITS FALSE NEIGHBOUR: 'it returns false'. Refute it at one input. -/
def seekAgreeWrong : ChangeSpec := { name := "seekAgree", fn := fun _ => fun
  | [d1, d2, d3, d4] => { results := [.lit (.bool false)], args := [d1, d2, d3, d4] }
  | _ => none }
def SeekAgreeWrongFalsely : Prop := seekAgreeRow.holds Try.pinned (OpenSpec.ofChange seekAgreeWrong)

/-- 'wayfarelaw22.SeekMarks': WHATEVER THE INPUT: true; the input reads as it did. -/
def seekMarksSpec : ChangeSpec := { name := "seekMarks", fn := fun _ => fun
  | [d1, d2] => { results := [.lit (.bool true)], args := [d1, d2] }
  | _ => none }
def seekMarksRow : OpenClaim := { program := "ytehlciejhegndaa", sum := "6c09e1285a7d7fc18373067fa8dd9d0f623ca3f8d0d753e67f69949ab3ea1c0d", func := "wayfare/wayfarelaw22.SeekMarks", spec := "seekMarks", unfollowed := true, recurses := true, apart := false }
def SeekMarksSaid : Prop := seekMarksRow.holds Try.pinned (OpenSpec.ofChange seekMarksSpec)

/-- ITS FALSE NEIGHBOUR: 'it returns false'. Refute it at one input. -/
def seekMarksWrong : ChangeSpec := { name := "seekMarks", fn := fun _ => fun
  | [d1, d2] => { results := [.lit (.bool false)], args := [d1, d2] }
  | _ => none }
def SeekMarksWrongFalsely : Prop := seekMarksRow.holds Try.pinned (OpenSpec.ofChange seekMarksWrong)

/-- 'wayfarelaw22.SeekChecks': WHATEVER THE INPUT: true; the input reads as it did. -/
def seekChecksSpec : ChangeSpec := { name := "seekChecks", fn := fun _ => fun
  | [d1, d2] => { results := [.lit (.bool true)], args := [d1, d2] }
  | _ => none }
def seekChecksRow : OpenClaim := { program := "ytehlciejhegndaa", sum := "6c09e1285a7d7fc18373067fa8dd9d0f623ca3f8d0d753e67f69949ab3ea1c0d", func := "wayfare/wayfarelaw22.SeekChecks", spec := "seekChecks", unfollowed := true, recurses := true, apart := false }
def SeekChecksSaid : Prop := seekChecksRow.holds Try.pinned (OpenSpec.ofChange seekChecksSpec)

/-- ITS FALSE NEIGHBOUR: 'it returns false'. Refute it at one input. -/
def seekChecksWrong : ChangeSpec := { name := "seekChecks", fn := fun _ => fun
  | [d1, d2] => { results := [.lit (.bool false)], args := [d1, d2] }
  | _ => none }
def SeekChecksWrongFalsely : Prop := seekChecksRow.holds Try.pinned (OpenSpec.ofChange seekChecksWrong)

/-- 'wayfarelaw22.SeekLower': WHATEVER THE INPUT: true; the input reads as it did. -/
def seekLowerSpec : ChangeSpec := { name := "seekLower", fn := fun _ => fun
  | [d1, d2, d3, d4, d5] => { results := [.lit (.bool true)], args := [d1, d2, d3, d4, d5] }
  | _ => none }
def seekLowerRow : OpenClaim := { program := "ytehlciejhegndaa", sum := "6c09e1285a7d7fc18373067fa8dd9d0f623ca3f8d0d753e67f69949ab3ea1c0d", func := "wayfare/wayfarelaw22.SeekLower", spec := "seekLower", unfollowed := true, recurses := true, apart := false }
def SeekLowerSaid : Prop := seekLowerRow.holds Try.pinned (OpenSpec.ofChange seekLowerSpec)

/-- ITS FALSE NEIGHBOUR: 'it returns false'. Refute it at one input. -/
def seekLowerWrong : ChangeSpec := { name := "seekLower", fn := fun _ => fun
  | [d1, d2, d3, d4, d5] => { results := [.lit (.bool false)], args := [d1, d2, d3, d4, d5] }
  | _ => none }
def SeekLowerWrongFalsely : Prop := seekLowerRow.holds Try.pinned (OpenSpec.ofChange seekLowerWrong)

/-- 'wayfarelaw22.SeekBounds': WHATEVER THE INPUT: true; the input reads as it did. -/
def seekBoundsSpec : ChangeSpec := { name := "seekBounds", fn := fun _ => fun
  | [d1, d2, d3, d4] => { results := [.lit (.bool true)], args := [d1, d2, d3, d4] }
  | _ => none }
def seekBoundsRow : OpenClaim := { program := "ytehlciejhegndaa", sum := "6c09e1285a7d7fc18373067fa8dd9d0f623ca3f8d0d753e67f69949ab3ea1c0d", func := "wayfare/wayfarelaw22.SeekBounds", spec := "seekBounds", unfollowed := true, recurses := true, apart := false }
def SeekBoundsSaid : Prop := seekBoundsRow.holds Try.pinned (OpenSpec.ofChange seekBoundsSpec)

/-- ITS FALSE NEIGHBOUR: 'it returns false'. Refute it at one input. -/
def seekBoundsWrong : ChangeSpec := { name := "seekBounds", fn := fun _ => fun
  | [d1, d2, d3, d4] => { results := [.lit (.bool false)], args := [d1, d2, d3, d4] }
  | _ => none }
def SeekBoundsWrongFalsely : Prop := seekBoundsRow.holds Try.pinned (OpenSpec.ofChange seekBoundsWrong)

/-- 'wayfarelaw22.SeekGuided': WHATEVER THE INPUT: true; the input reads as it did. -/
def seekGuidedSpec : ChangeSpec := { name := "seekGuided", fn := fun _ => fun
  | [d1, d2, d3, d4] => { results := [.lit (.bool true)], args := [d1, d2, d3, d4] }
  | _ => none }
def seekGuidedRow : OpenClaim := { program := "ytehlciejhegndaa", sum := "6c09e1285a7d7fc18373067fa8dd9d0f623ca3f8d0d753e67f69949ab3ea1c0d", func := "wayfare/wayfarelaw22.SeekGuided", spec := "seekGuided", unfollowed := true, recurses := true, apart := false }
def SeekGuidedSaid : Prop := seekGuidedRow.holds Try.pinned (OpenSpec.ofChange seekGuidedSpec)

/-- ITS FALSE NEIGHBOUR: 'it returns false'. Refute it at one input. -/
def seekGuidedWrong : ChangeSpec := { name := "seekGuided", fn := fun _ => fun
  | [d1, d2, d3, d4] => { results := [.lit (.bool false)], args := [d1, d2, d3, d4] }
  | _ => none }
def SeekGuidedWrongFalsely : Prop := seekGuidedRow.holds Try.pinned (OpenSpec.ofChange seekGuidedWrong)

/- THE SECOND FORM. 'bulk': how many values and letters a reading holds, each counted each time it is reached (what is shared counts as often as it is met; a slice's spare places count too). A statement '..UptoSaid' is the law's where the arguments, and the package variables that the reading takes, are together of bulk at most 1048576: NARROWER than '..Said'. Prove '..Said' where nothing that the law and all that it calls make is longer than what came in: it says more and counts as full. Else prove '..UptoSaid'. A law counts once. -/
mutual
def uptoBulk {H : Type} : DataW H → Nat
  | .lit (.string bytes) => bytes.length + 1
  | .lit _ => 1
  | .nil => 1
  | .ptr d => uptoBulk d + 1
  | .slice elems spare => uptoBulkAll elems + uptoBulkAll spare + 1
  | .agg parts => uptoBulkAll parts + 1
  | .iface _ d => uptoBulk d + 1
  | .map entries => uptoBulkEntries entries + 1
  | .held _ => 1
def uptoBulkAll {H : Type} : List (DataW H) → Nat
  | [] => 0
  | d :: r => uptoBulk d + uptoBulkAll r
def uptoBulkEntries {H : Type} : List (Lit × DataW H) → Nat
  | [] => 0
  | x :: r => uptoBulkEntry x + uptoBulkEntries r
def uptoBulkEntry {H : Type} : Lit × DataW H → Nat
  | (.string bytes, d) => bytes.length + uptoBulk d + 1
  | (_, d) => uptoBulk d + 1
 end
def uptoSmall : (H : Type) → List (DataW H) → Bool := fun _ ds => decide (uptoBulkAll ds ≤ 1048576)
def OpenSpec.upto (s : _root_.Go.ChangeSpec) : _root_.Go.OpenSpec := { _root_.Go.OpenSpec.ofChange s with cond := some uptoSmall }

/-- 'wayfarelaw22.SeekBoths', WHERE WHAT IT READS IS OF BULK AT MOST 1048576: true; the input reads as it did. -/
def seekBothsUptoRow : OpenClaim := { program := "ytehlciejhegndaa", sum := "6c09e1285a7d7fc18373067fa8dd9d0f623ca3f8d0d753e67f69949ab3ea1c0d", func := "wayfare/wayfarelaw22.SeekBoths", spec := "seekBoths", unfollowed := true, recurses := true, apart := false, narrowed := true }
def SeekBothsUptoSaid : Prop := seekBothsUptoRow.holds Try.pinned (OpenSpec.upto seekBothsSpec)

/-- 'wayfarelaw22.SeekAgree', WHERE WHAT IT READS IS OF BULK AT MOST 1048576: true; the input reads as it did. -/
def seekAgreeUptoRow : OpenClaim := { program := "ytehlciejhegndaa", sum := "6c09e1285a7d7fc18373067fa8dd9d0f623ca3f8d0d753e67f69949ab3ea1c0d", func := "wayfare/wayfarelaw22.SeekAgree", spec := "seekAgree", unfollowed := true, recurses := true, apart := false, narrowed := true }
def SeekAgreeUptoSaid : Prop := seekAgreeUptoRow.holds Try.pinned (OpenSpec.upto seekAgreeSpec)

/-- 'wayfarelaw22.SeekMarks', WHERE WHAT IT READS IS OF BULK AT MOST 1048576: true; the input reads as it did. -/
def seekMarksUptoRow : OpenClaim := { program := "ytehlciejhegndaa", sum := "6c09e1285a7d7fc18373067fa8dd9d0f623ca3f8d0d753e67f69949ab3ea1c0d", func := "wayfare/wayfarelaw22.SeekMarks", spec := "seekMarks", unfollowed := true, recurses := true, apart := false, narrowed := true }
def SeekMarksUptoSaid : Prop := seekMarksUptoRow.holds Try.pinned (OpenSpec.upto seekMarksSpec)

/-- 'wayfarelaw22.SeekChecks', WHERE WHAT IT READS IS OF BULK AT MOST 1048576: true; the input reads as it did. -/
def seekChecksUptoRow : OpenClaim := { program := "ytehlciejhegndaa", sum := "6c09e1285a7d7fc18373067fa8dd9d0f623ca3f8d0d753e67f69949ab3ea1c0d", func := "wayfare/wayfarelaw22.SeekChecks", spec := "seekChecks", unfollowed := true, recurses := true, apart := false, narrowed := true }
def SeekChecksUptoSaid : Prop := seekChecksUptoRow.holds Try.pinned (OpenSpec.upto seekChecksSpec)

/-- 'wayfarelaw22.SeekLower', WHERE WHAT IT READS IS OF BULK AT MOST 1048576: true; the input reads as it did. -/
def seekLowerUptoRow : OpenClaim := { program := "ytehlciejhegndaa", sum := "6c09e1285a7d7fc18373067fa8dd9d0f623ca3f8d0d753e67f69949ab3ea1c0d", func := "wayfare/wayfarelaw22.SeekLower", spec := "seekLower", unfollowed := true, recurses := true, apart := false, narrowed := true }
def SeekLowerUptoSaid : Prop := seekLowerUptoRow.holds Try.pinned (OpenSpec.upto seekLowerSpec)

/-- 'wayfarelaw22.SeekBounds', WHERE WHAT IT READS IS OF BULK AT MOST 1048576: true; the input reads as it did. -/
def seekBoundsUptoRow : OpenClaim := { program := "ytehlciejhegndaa", sum := "6c09e1285a7d7fc18373067fa8dd9d0f623ca3f8d0d753e67f69949ab3ea1c0d", func := "wayfare/wayfarelaw22.SeekBounds", spec := "seekBounds", unfollowed := true, recurses := true, apart := false, narrowed := true }
def SeekBoundsUptoSaid : Prop := seekBoundsUptoRow.holds Try.pinned (OpenSpec.upto seekBoundsSpec)

/-- 'wayfarelaw22.SeekGuided', WHERE WHAT IT READS IS OF BULK AT MOST 1048576: true; the input reads as it did. -/
def seekGuidedUptoRow : OpenClaim := { program := "ytehlciejhegndaa", sum := "6c09e1285a7d7fc18373067fa8dd9d0f623ca3f8d0d753e67f69949ab3ea1c0d", func := "wayfare/wayfarelaw22.SeekGuided", spec := "seekGuided", unfollowed := true, recurses := true, apart := false, narrowed := true }
def SeekGuidedUptoSaid : Prop := seekGuidedUptoRow.holds Try.pinned (OpenSpec.upto seekGuidedSpec)

end Rows
end Go.Proofs.Ytehlciejhegndaa
