/-
  No cell of these rows narrows 'for every input' (looked for: loops, veiled, ifaces, maps, wideKeys, modest, calm, conditions, laid).
  DERIVED. THE GIVEN ROWS OF THIS SEAT. 6 by the template 'for every input the law returns true; each argument reads behind the call as it read before'; 0 by the template 'total and deterministic' (their statements: YtfoeljcgbfpknaaTotals.lean).
  GIVEN WITH THE SEED: the statements are not yours to turn. If you find one false, say at which input.
  Laid BY PROGRAM, IN A SANDBOX (cutbox-rows.mjs): the forced cells as the released guide's own fill.sh prints them over the translation 3d526535c3553553… (all of the seat's roots in one cut). By AI agents, Wed Nov 11 2026. No macro, syntax, notation, axiom, sorry.
-/
import Derived.Test.YtfoeljcgbfpknaaChecked
import GoSem.Claim
import GoSem.ClaimJoined
import GoSem.ClaimMapViews
import Derived.JoinedTies
import Derived.KernelRfl
namespace Go.Proofs.Ytfoeljcgbfpknaa
/- THE CELL 'sum', in the pinned program and in every row, IS THE sha256 OF THE DUMP (.gsa) THAT YtfoeljcgbfpknaaProg.lean LOADS. Nothing in Lean hashes anything: it is a label: what it is worth is what the hold of that sum in a sandbox is worth. -/
noncomputable def Try.pinned : Pinned := { name := "ytfoeljcgbfpknaa", sum := "3d526535c35535538ceebc7c0eca58c133c8bef18f9675df714ced9b838791d9", checked := Try.checked }
namespace Rows
def none {H : Type} : Left H := { results := [], args := [] }

/-- 'wayfarelaw18.HistoryFollows': WHATEVER THE INPUT: true; the input reads as it did. -/
def historyFollowsSpec : ChangeSpec := { name := "historyFollows", fn := fun _ => fun
  | [d1, d2, d3] => { results := [.lit (.bool true)], args := [d1, d2, d3] }
  | _ => none }
def historyFollowsRow : OpenClaim := { program := "ytfoeljcgbfpknaa", sum := "3d526535c35535538ceebc7c0eca58c133c8bef18f9675df714ced9b838791d9", func := "wayfare/wayfarelaw18.HistoryFollows", spec := "historyFollows", plainKeys := false, apart := false }
def HistoryFollowsSaid : Prop := historyFollowsRow.holds Try.pinned (OpenSpec.ofChange historyFollowsSpec)

/-- ITS FALSE NEIGHBOUR: 'it returns false'. Refute it at one input. -/
def historyFollowsWrong : ChangeSpec := { name := "historyFollows", fn := fun _ => fun
  | [d1, d2, d3] => { results := [.lit (.bool false)], args := [d1, d2, d3] }
  | _ => none }
def HistoryFollowsWrongFalsely : Prop := historyFollowsRow.holds Try.pinned (OpenSpec.ofChange historyFollowsWrong)

/-- 'wayfarelaw18.HistoryRanks': WHATEVER THE INPUT: true; the input reads as it did. -/
def historyRanksSpec : ChangeSpec := { name := "historyRanks", fn := fun _ => fun
  | [d1, d2] => { results := [.lit (.bool true)], args := [d1, d2] }
  | _ => none }
def historyRanksRow : OpenClaim := { program := "ytfoeljcgbfpknaa", sum := "3d526535c35535538ceebc7c0eca58c133c8bef18f9675df714ced9b838791d9", func := "wayfare/wayfarelaw18.HistoryRanks", spec := "historyRanks", plainKeys := false, apart := false }
def HistoryRanksSaid : Prop := historyRanksRow.holds Try.pinned (OpenSpec.ofChange historyRanksSpec)

/-- ITS FALSE NEIGHBOUR: 'it returns false'. Refute it at one input. -/
def historyRanksWrong : ChangeSpec := { name := "historyRanks", fn := fun _ => fun
  | [d1, d2] => { results := [.lit (.bool false)], args := [d1, d2] }
  | _ => none }
def HistoryRanksWrongFalsely : Prop := historyRanksRow.holds Try.pinned (OpenSpec.ofChange historyRanksWrong)

/-- 'wayfarelaw18.HistoryBags': WHATEVER THE INPUT: true; the input reads as it did. -/
def historyBagsSpec : ChangeSpec := { name := "historyBags", fn := fun _ => fun
  | [d] => { results := [.lit (.bool true)], args := [d] }
  | _ => none }
def historyBagsRow : OpenClaim := { program := "ytfoeljcgbfpknaa", sum := "3d526535c35535538ceebc7c0eca58c133c8bef18f9675df714ced9b838791d9", func := "wayfare/wayfarelaw18.HistoryBags", spec := "historyBags", unfollowed := true, recurses := true, plainKeys := false, apart := false }
def HistoryBagsSaid : Prop := historyBagsRow.holds Try.pinned (OpenSpec.ofChange historyBagsSpec)

/-- ITS FALSE NEIGHBOUR: 'it returns false'. Refute it at one input. -/
def historyBagsWrong : ChangeSpec := { name := "historyBags", fn := fun _ => fun
  | [d] => { results := [.lit (.bool false)], args := [d] }
  | _ => none }
def HistoryBagsWrongFalsely : Prop := historyBagsRow.holds Try.pinned (OpenSpec.ofChange historyBagsWrong)

/-- 'wayfarelaw18.HistoryRight': WHATEVER THE INPUT: true; the input reads as it did. -/
def historyRightSpec : ChangeSpec := { name := "historyRight", fn := fun _ => fun
  | [d1, d2, d3, d4] => { results := [.lit (.bool true)], args := [d1, d2, d3, d4] }
  | _ => none }
def historyRightRow : OpenClaim := { program := "ytfoeljcgbfpknaa", sum := "3d526535c35535538ceebc7c0eca58c133c8bef18f9675df714ced9b838791d9", func := "wayfare/wayfarelaw18.HistoryRight", spec := "historyRight", unfollowed := true, recurses := true, plainKeys := false, apart := false }
def HistoryRightSaid : Prop := historyRightRow.holds Try.pinned (OpenSpec.ofChange historyRightSpec)

/-- ITS FALSE NEIGHBOUR: 'it returns false'. Refute it at one input. -/
def historyRightWrong : ChangeSpec := { name := "historyRight", fn := fun _ => fun
  | [d1, d2, d3, d4] => { results := [.lit (.bool false)], args := [d1, d2, d3, d4] }
  | _ => none }
def HistoryRightWrongFalsely : Prop := historyRightRow.holds Try.pinned (OpenSpec.ofChange historyRightWrong)

/-- 'wayfarelaw18.HistoryQueues': WHATEVER THE INPUT: true; the input reads as it did. -/
def historyQueuesSpec : ChangeSpec := { name := "historyQueues", fn := fun _ => fun
  | [d] => { results := [.lit (.bool true)], args := [d] }
  | _ => none }
def historyQueuesRow : OpenClaim := { program := "ytfoeljcgbfpknaa", sum := "3d526535c35535538ceebc7c0eca58c133c8bef18f9675df714ced9b838791d9", func := "wayfare/wayfarelaw18.HistoryQueues", spec := "historyQueues", unfollowed := true, recurses := true, plainKeys := false, apart := false }
def HistoryQueuesSaid : Prop := historyQueuesRow.holds Try.pinned (OpenSpec.ofChange historyQueuesSpec)

/-- ITS FALSE NEIGHBOUR: 'it returns false'. Refute it at one input. -/
def historyQueuesWrong : ChangeSpec := { name := "historyQueues", fn := fun _ => fun
  | [d] => { results := [.lit (.bool false)], args := [d] }
  | _ => none }
def HistoryQueuesWrongFalsely : Prop := historyQueuesRow.holds Try.pinned (OpenSpec.ofChange historyQueuesWrong)

/-- 'wayfarelaw18.HistoryRefutes': WHATEVER THE INPUT: true; the input reads as it did. -/
def historyRefutesSpec : ChangeSpec := { name := "historyRefutes", fn := fun _ => fun
  | [d1, d2] => { results := [.lit (.bool true)], args := [d1, d2] }
  | _ => none }
def historyRefutesRow : OpenClaim := { program := "ytfoeljcgbfpknaa", sum := "3d526535c35535538ceebc7c0eca58c133c8bef18f9675df714ced9b838791d9", func := "wayfare/wayfarelaw18.HistoryRefutes", spec := "historyRefutes", unfollowed := true, recurses := true, plainKeys := false, apart := false }
def HistoryRefutesSaid : Prop := historyRefutesRow.holds Try.pinned (OpenSpec.ofChange historyRefutesSpec)

/-- ITS FALSE NEIGHBOUR: 'it returns false'. Refute it at one input. -/
def historyRefutesWrong : ChangeSpec := { name := "historyRefutes", fn := fun _ => fun
  | [d1, d2] => { results := [.lit (.bool false)], args := [d1, d2] }
  | _ => none }
def HistoryRefutesWrongFalsely : Prop := historyRefutesRow.holds Try.pinned (OpenSpec.ofChange historyRefutesWrong)

/- THE SECOND FORM. 'bulk': how many values and letters a reading holds, each counted each time it is reached (what is shared counts as often as it is met; a slice's spare places count too). A statement '..UptoSaid' is the law's where the arguments, and the package variables that the reading takes, are together of bulk at most 1048576: NARROWER than '..Said'. Prove '..Said' where nothing that the law and all that it calls make is longer than what came in: it says more and counts as full. Else prove '..UptoSaid'. A law counts once. -/
mutual
def uptoBulk {H : Type} : DataW H → Nat
  | .lit (.string bytes) => bytes.length + 1
  | .lit _ => 1
  | .nil => 1
  | .ptr d => uptoBulk d + 1
  | .slice elems spare => uptoBulkAll elems + uptoBulkAll spare + 1
  | .agg parts => uptoBulkAll parts + 1
  | .iface _ d => uptoBulk d + 1
  | .map entries => uptoBulkEntries entries + 1
  | .held _ => 1
def uptoBulkAll {H : Type} : List (DataW H) → Nat
  | [] => 0
  | d :: r => uptoBulk d + uptoBulkAll r
def uptoBulkEntries {H : Type} : List (Lit × DataW H) → Nat
  | [] => 0
  | x :: r => uptoBulkEntry x + uptoBulkEntries r
def uptoBulkEntry {H : Type} : Lit × DataW H → Nat
  | (.string bytes, d) => bytes.length + uptoBulk d + 1
  | (_, d) => uptoBulk d + 1
 end
def uptoSmall : (H : Type) → List (DataW H) → Bool := fun _ ds => decide (uptoBulkAll ds ≤ 1048576)
def OpenSpec.upto (s : _root_.Go.ChangeSpec) : _root_.Go.OpenSpec := { _root_.Go.OpenSpec.ofChange s with cond := some uptoSmall }

/-- 'wayfarelaw18.HistoryFollows', WHERE WHAT IT READS IS OF BULK AT MOST 1048576: true; the input reads as it did. -/
def historyFollowsUptoRow : OpenClaim := { program := "ytfoeljcgbfpknaa", sum := "3d526535c35535538ceebc7c0eca58c133c8bef18f9675df714ced9b838791d9", func := "wayfare/wayfarelaw18.HistoryFollows", spec := "historyFollows", plainKeys := false, apart := false, narrowed := true }
def HistoryFollowsUptoSaid : Prop := historyFollowsUptoRow.holds Try.pinned (OpenSpec.upto historyFollowsSpec)

/-- 'wayfarelaw18.HistoryRanks', WHERE WHAT IT READS IS OF BULK AT MOST 1048576: true; the input reads as it did. -/
def historyRanksUptoRow : OpenClaim := { program := "ytfoeljcgbfpknaa", sum := "3d526535c35535538ceebc7c0eca58c133c8bef18f9675df714ced9b838791d9", func := "wayfare/wayfarelaw18.HistoryRanks", spec := "historyRanks", plainKeys := false, apart := false, narrowed := true }
def HistoryRanksUptoSaid : Prop := historyRanksUptoRow.holds Try.pinned (OpenSpec.upto historyRanksSpec)

/-- 'wayfarelaw18.HistoryBags', WHERE WHAT IT READS IS OF BULK AT MOST 1048576: true; the input reads as it did. -/
def historyBagsUptoRow : OpenClaim := { program := "ytfoeljcgbfpknaa", sum := "3d526535c35535538ceebc7c0eca58c133c8bef18f9675df714ced9b838791d9", func := "wayfare/wayfarelaw18.HistoryBags", spec := "historyBags", unfollowed := true, recurses := true, plainKeys := false, apart := false, narrowed := true }
def HistoryBagsUptoSaid : Prop := historyBagsUptoRow.holds Try.pinned (OpenSpec.upto historyBagsSpec)

/-- 'wayfarelaw18.HistoryRight', WHERE WHAT IT READS IS OF BULK AT MOST 1048576: true; the input reads as it did. -/
def historyRightUptoRow : OpenClaim := { program := "ytfoeljcgbfpknaa", sum := "3d526535c35535538ceebc7c0eca58c133c8bef18f9675df714ced9b838791d9", func := "wayfare/wayfarelaw18.HistoryRight", spec := "historyRight", unfollowed := true, recurses := true, plainKeys := false, apart := false, narrowed := true }
def HistoryRightUptoSaid : Prop := historyRightUptoRow.holds Try.pinned (OpenSpec.upto historyRightSpec)

/-- 'wayfarelaw18.HistoryQueues', WHERE WHAT IT READS IS OF BULK AT MOST 1048576: true; the input reads as it did. -/
def historyQueuesUptoRow : OpenClaim := { program := "ytfoeljcgbfpknaa", sum := "3d526535c35535538ceebc7c0eca58c133c8bef18f9675df714ced9b838791d9", func := "wayfare/wayfarelaw18.HistoryQueues", spec := "historyQueues", unfollowed := true, recurses := true, plainKeys := false, apart := false, narrowed := true }
def HistoryQueuesUptoSaid : Prop := historyQueuesUptoRow.holds Try.pinned (OpenSpec.upto historyQueuesSpec)

/-- 'wayfarelaw18.HistoryRefutes', WHERE WHAT IT READS IS OF BULK AT MOST 1048576: true; the input reads as it did. -/
def historyRefutesUptoRow : OpenClaim := { program := "ytfoeljcgbfpknaa", sum := "3d526535c35535538ceebc7c0eca58c133c8bef18f9675df714ced9b838791d9", func := "wayfare/wayfarelaw18.HistoryRefutes", spec := "historyRefutes", unfollowed := true, recurses := true, plainKeys := false, apart := false, narrowed := true }
def HistoryRefutesUptoSaid : Prop := historyRefutesUptoRow.holds Try.pinned (OpenSpec.upto historyRefutesSpec)

end Rows
end Go.Proofs.Ytfoeljcgbfpknaa
