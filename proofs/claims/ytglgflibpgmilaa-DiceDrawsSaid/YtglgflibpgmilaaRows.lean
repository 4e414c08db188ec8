/-
  No cell of these rows narrows 'for every input' (looked for: loops, veiled, ifaces, maps, wideKeys, modest, calm, conditions, laid).
  DERIVED. THE GIVEN ROWS OF THIS SEAT. 8 by the template 'for every input the law returns true; each argument reads behind the call as it read before'; 0 by the template 'total and deterministic' (their statements: YtglgflibpgmilaaTotals.lean).
  GIVEN WITH THE SEED: the statements are not yours to turn. If you find one false, say at which input.
  Laid BY PROGRAM, IN A SANDBOX (cutbox-rows.mjs): the forced cells as the released guide's own fill.sh prints them over the translation 52d949f46db7e5e7… (all of the seat's roots in one cut). By AI agents, Wed Nov 11 2026. No macro, syntax, notation, axiom, sorry.
-/
import Derived.Test.YtglgflibpgmilaaChecked
import GoSem.Claim
import GoSem.ClaimJoined
import GoSem.ClaimMapViews
import Derived.JoinedTies
import Derived.KernelRfl
namespace Go.Proofs.Ytglgflibpgmilaa
/- THE CELL 'sum', in the pinned program and in every row, IS THE sha256 OF THE DUMP (.gsa) THAT YtglgflibpgmilaaProg.lean LOADS. Nothing in Lean hashes anything: it is a label: what it is worth is what the hold of that sum in a sandbox is worth. -/
noncomputable def Try.pinned : Pinned := { name := "ytglgflibpgmilaa", sum := "52d949f46db7e5e75035bab64de35d21146bb2b60e9e78e6b27551e963ac37ea", checked := Try.checked }
namespace Rows
def none {H : Type} : Left H := { results := [], args := [] }

/-- 'wayfarelaw02.DiceDraws': WHATEVER THE INPUT: true; the input reads as it did. -/
def diceDrawsSpec : ChangeSpec := { name := "diceDraws", fn := fun _ => fun
  | [d1, d2, d3, d4, d5] => { results := [.lit (.bool true)], args := [d1, d2, d3, d4, d5] }
  | _ => none }
def diceDrawsRow : OpenClaim := { program := "ytglgflibpgmilaa", sum := "52d949f46db7e5e75035bab64de35d21146bb2b60e9e78e6b27551e963ac37ea", func := "wayfare/wayfarelaw02.DiceDraws", spec := "diceDraws", unfollowed := true, recurses := true, apart := false }
def DiceDrawsSaid : Prop := diceDrawsRow.holds Try.pinned (OpenSpec.ofChange diceDrawsSpec)

/-- ITS FALSE NEIGHBOUR: 'it returns false'. Refute it at one input. -/
def diceDrawsWrong : ChangeSpec := { name := "diceDraws", fn := fun _ => fun
  | [d1, d2, d3, d4, d5] => { results := [.lit (.bool false)], args := [d1, d2, d3, d4, d5] }
  | _ => none }
def DiceDrawsWrongFalsely : Prop := diceDrawsRow.holds Try.pinned (OpenSpec.ofChange diceDrawsWrong)

/-- 'wayfarelaw02.DiceMakes': WHATEVER THE INPUT: true; the input reads as it did. -/
def diceMakesSpec : ChangeSpec := { name := "diceMakes", fn := fun _ => fun
  | [d1, d2, d3] => { results := [.lit (.bool true)], args := [d1, d2, d3] }
  | _ => none }
def diceMakesRow : OpenClaim := { program := "ytglgflibpgmilaa", sum := "52d949f46db7e5e75035bab64de35d21146bb2b60e9e78e6b27551e963ac37ea", func := "wayfare/wayfarelaw02.DiceMakes", spec := "diceMakes", unfollowed := true, recurses := true, apart := false }
def DiceMakesSaid : Prop := diceMakesRow.holds Try.pinned (OpenSpec.ofChange diceMakesSpec)

/-- ITS FALSE NEIGHBOUR: 'it returns false'. Refute it at one input. -/
def diceMakesWrong : ChangeSpec := { name := "diceMakes", fn := fun _ => fun
  | [d1, d2, d3] => { results := [.lit (.bool false)], args := [d1, d2, d3] }
  | _ => none }
def DiceMakesWrongFalsely : Prop := diceMakesRow.holds Try.pinned (OpenSpec.ofChange diceMakesWrong)

/-- 'wayfarelaw02.DiceOrders': WHATEVER THE INPUT: true; the input reads as it did. -/
def diceOrdersSpec : ChangeSpec := { name := "diceOrders", fn := fun _ => fun
  | [d1, d2, d3] => { results := [.lit (.bool true)], args := [d1, d2, d3] }
  | _ => none }
def diceOrdersRow : OpenClaim := { program := "ytglgflibpgmilaa", sum := "52d949f46db7e5e75035bab64de35d21146bb2b60e9e78e6b27551e963ac37ea", func := "wayfare/wayfarelaw02.DiceOrders", spec := "diceOrders", unfollowed := true, recurses := true, apart := false }
def DiceOrdersSaid : Prop := diceOrdersRow.holds Try.pinned (OpenSpec.ofChange diceOrdersSpec)

/-- ITS FALSE NEIGHBOUR: 'it returns false'. Refute it at one input. -/
def diceOrdersWrong : ChangeSpec := { name := "diceOrders", fn := fun _ => fun
  | [d1, d2, d3] => { results := [.lit (.bool false)], args := [d1, d2, d3] }
  | _ => none }
def DiceOrdersWrongFalsely : Prop := diceOrdersRow.holds Try.pinned (OpenSpec.ofChange diceOrdersWrong)

/-- 'wayfarelaw02.DiceScatters': WHATEVER THE INPUT: true; the input reads as it did. -/
def diceScattersSpec : ChangeSpec := { name := "diceScatters", fn := fun _ => fun
  | [d1, d2] => { results := [.lit (.bool true)], args := [d1, d2] }
  | _ => none }
def diceScattersRow : OpenClaim := { program := "ytglgflibpgmilaa", sum := "52d949f46db7e5e75035bab64de35d21146bb2b60e9e78e6b27551e963ac37ea", func := "wayfare/wayfarelaw02.DiceScatters", spec := "diceScatters", apart := false }
def DiceScattersSaid : Prop := diceScattersRow.holds Try.pinned (OpenSpec.ofChange diceScattersSpec)

/-- ITS FALSE NEIGHBOUR: 'it returns false'. Refute it at one input. -/
def diceScattersWrong : ChangeSpec := { name := "diceScatters", fn := fun _ => fun
  | [d1, d2] => { results := [.lit (.bool false)], args := [d1, d2] }
  | _ => none }
def DiceScattersWrongFalsely : Prop := diceScattersRow.holds Try.pinned (OpenSpec.ofChange diceScattersWrong)

/-- 'wayfarelaw02.DiceLinear': WHATEVER THE INPUT: true; the input reads as it did. -/
def diceLinearSpec : ChangeSpec := { name := "diceLinear", fn := fun _ => fun
  | [d1, d2, d3] => { results := [.lit (.bool true)], args := [d1, d2, d3] }
  | _ => none }
def diceLinearRow : OpenClaim := { program := "ytglgflibpgmilaa", sum := "52d949f46db7e5e75035bab64de35d21146bb2b60e9e78e6b27551e963ac37ea", func := "wayfare/wayfarelaw02.DiceLinear", spec := "diceLinear", unfollowed := true, recurses := true, apart := false }
def DiceLinearSaid : Prop := diceLinearRow.holds Try.pinned (OpenSpec.ofChange diceLinearSpec)

/-- ITS FALSE NEIGHBOUR: 'it returns false'. Refute it at one input. -/
def diceLinearWrong : ChangeSpec := { name := "diceLinear", fn := fun _ => fun
  | [d1, d2, d3] => { results := [.lit (.bool false)], args := [d1, d2, d3] }
  | _ => none }
def DiceLinearWrongFalsely : Prop := diceLinearRow.holds Try.pinned (OpenSpec.ofChange diceLinearWrong)

/-- 'wayfarelaw02.DiceSkips': WHATEVER THE INPUT: true; the input reads as it did. -/
def diceSkipsSpec : ChangeSpec := { name := "diceSkips", fn := fun _ => fun
  | [d1, d2, d3, d4, d5] => { results := [.lit (.bool true)], args := [d1, d2, d3, d4, d5] }
  | _ => none }
def diceSkipsRow : OpenClaim := { program := "ytglgflibpgmilaa", sum := "52d949f46db7e5e75035bab64de35d21146bb2b60e9e78e6b27551e963ac37ea", func := "wayfare/wayfarelaw02.DiceSkips", spec := "diceSkips", unfollowed := true, recurses := true, apart := false }
def DiceSkipsSaid : Prop := diceSkipsRow.holds Try.pinned (OpenSpec.ofChange diceSkipsSpec)

/-- ITS FALSE NEIGHBOUR: 'it returns false'. Refute it at one input. -/
def diceSkipsWrong : ChangeSpec := { name := "diceSkips", fn := fun _ => fun
  | [d1, d2, d3, d4, d5] => { results := [.lit (.bool false)], args := [d1, d2, d3, d4, d5] }
  | _ => none }
def DiceSkipsWrongFalsely : Prop := diceSkipsRow.holds Try.pinned (OpenSpec.ofChange diceSkipsWrong)

/-- 'wayfarelaw02.DiceBelows': WHATEVER THE INPUT: true; the input reads as it did. -/
def diceBelowsSpec : ChangeSpec := { name := "diceBelows", fn := fun _ => fun
  | [d1, d2, d3] => { results := [.lit (.bool true)], args := [d1, d2, d3] }
  | _ => none }
def diceBelowsRow : OpenClaim := { program := "ytglgflibpgmilaa", sum := "52d949f46db7e5e75035bab64de35d21146bb2b60e9e78e6b27551e963ac37ea", func := "wayfare/wayfarelaw02.DiceBelows", spec := "diceBelows", unfollowed := true, recurses := true, apart := false }
def DiceBelowsSaid : Prop := diceBelowsRow.holds Try.pinned (OpenSpec.ofChange diceBelowsSpec)

/-- ITS FALSE NEIGHBOUR: 'it returns false'. Refute it at one input. -/
def diceBelowsWrong : ChangeSpec := { name := "diceBelows", fn := fun _ => fun
  | [d1, d2, d3] => { results := [.lit (.bool false)], args := [d1, d2, d3] }
  | _ => none }
def DiceBelowsWrongFalsely : Prop := diceBelowsRow.holds Try.pinned (OpenSpec.ofChange diceBelowsWrong)

/-- 'wayfarelaw02.DiceAny': WHATEVER THE INPUT: true; the input reads as it did. -/
def diceAnySpec : ChangeSpec := { name := "diceAny", fn := fun _ => fun
  | [d] => { results := [.lit (.bool true)], args := [d] }
  | _ => none }
def diceAnyRow : OpenClaim := { program := "ytglgflibpgmilaa", sum := "52d949f46db7e5e75035bab64de35d21146bb2b60e9e78e6b27551e963ac37ea", func := "wayfare/wayfarelaw02.DiceAny", spec := "diceAny", unfollowed := true, recurses := true, apart := false }
def DiceAnySaid : Prop := diceAnyRow.holds Try.pinned (OpenSpec.ofChange diceAnySpec)

/-- ITS FALSE NEIGHBOUR: 'it returns false'. Refute it at one input. -/
def diceAnyWrong : ChangeSpec := { name := "diceAny", fn := fun _ => fun
  | [d] => { results := [.lit (.bool false)], args := [d] }
  | _ => none }
def DiceAnyWrongFalsely : Prop := diceAnyRow.holds Try.pinned (OpenSpec.ofChange diceAnyWrong)

/- THE SECOND FORM. 'bulk': how many values and letters a reading holds, each counted each time it is reached (what is shared counts as often as it is met; a slice's spare places count too). A statement '..UptoSaid' is the law's where the arguments, and the package variables that the reading takes, are together of bulk at most 1048576: NARROWER than '..Said'. Prove '..Said' where nothing that the law and all that it calls make is longer than what came in: it says more and counts as full. Else prove '..UptoSaid'. A law counts once. -/
mutual
def uptoBulk {H : Type} : DataW H → Nat
  | .lit (.string bytes) => bytes.length + 1
  | .lit _ => 1
  | .nil => 1
  | .ptr d => uptoBulk d + 1
  | .slice elems spare => uptoBulkAll elems + uptoBulkAll spare + 1
  | .agg parts => uptoBulkAll parts + 1
  | .iface _ d => uptoBulk d + 1
  | .map entries => uptoBulkEntries entries + 1
  | .held _ => 1
def uptoBulkAll {H : Type} : List (DataW H) → Nat
  | [] => 0
  | d :: r => uptoBulk d + uptoBulkAll r
def uptoBulkEntries {H : Type} : List (Lit × DataW H) → Nat
  | [] => 0
  | x :: r => uptoBulkEntry x + uptoBulkEntries r
def uptoBulkEntry {H : Type} : Lit × DataW H → Nat
  | (.string bytes, d) => bytes.length + uptoBulk d + 1
  | (_, d) => uptoBulk d + 1
 end
def uptoSmall : (H : Type) → List (DataW H) → Bool := fun _ ds => decide (uptoBulkAll ds ≤ 1048576)
def OpenSpec.upto (s : _root_.Go.ChangeSpec) : _root_.Go.OpenSpec := { _root_.Go.OpenSpec.ofChange s with cond := some uptoSmall }

/-- 'wayfarelaw02.DiceDraws', WHERE WHAT IT READS IS OF BULK AT MOST 1048576: true; the input reads as it did. -/
def diceDrawsUptoRow : OpenClaim := { program := "ytglgflibpgmilaa", sum := "52d949f46db7e5e75035bab64de35d21146bb2b60e9e78e6b27551e963ac37ea", func := "wayfare/wayfarelaw02.DiceDraws", spec := "diceDraws", unfollowed := true, recurses := true, apart := false, narrowed := true }
def DiceDrawsUptoSaid : Prop := diceDrawsUptoRow.holds Try.pinned (OpenSpec.upto diceDrawsSpec)

/-- 'wayfarelaw02.DiceMakes', WHERE WHAT IT READS IS OF BULK AT MOST 1048576: true; the input reads as it did. -/
def diceMakesUptoRow : OpenClaim := { program := "ytglgflibpgmilaa", sum := "52d949f46db7e5e75035bab64de35d21146bb2b60e9e78e6b27551e963ac37ea", func := "wayfare/wayfarelaw02.DiceMakes", spec := "diceMakes", unfollowed := true, recurses := true, apart := false, narrowed := true }
def DiceMakesUptoSaid : Prop := diceMakesUptoRow.holds Try.pinned (OpenSpec.upto diceMakesSpec)

/-- 'wayfarelaw02.DiceOrders', WHERE WHAT IT READS IS OF BULK AT MOST 1048576: true; the input reads as it did. -/
def diceOrdersUptoRow : OpenClaim := { program := "ytglgflibpgmilaa", sum := "52d949f46db7e5e75035bab64de35d21146bb2b60e9e78e6b27551e963ac37ea", func := "wayfare/wayfarelaw02.DiceOrders", spec := "diceOrders", unfollowed := true, recurses := true, apart := false, narrowed := true }
def DiceOrdersUptoSaid : Prop := diceOrdersUptoRow.holds Try.pinned (OpenSpec.upto diceOrdersSpec)

/-- 'wayfarelaw02.DiceScatters', WHERE WHAT IT READS IS OF BULK AT MOST 1048576: true; the input reads as it did. -/
def diceScattersUptoRow : OpenClaim := { program := "ytglgflibpgmilaa", sum := "52d949f46db7e5e75035bab64de35d21146bb2b60e9e78e6b27551e963ac37ea", func := "wayfare/wayfarelaw02.DiceScatters", spec := "diceScatters", apart := false, narrowed := true }
def DiceScattersUptoSaid : Prop := diceScattersUptoRow.holds Try.pinned (OpenSpec.upto diceScattersSpec)

/-- 'wayfarelaw02.DiceLinear', WHERE WHAT IT READS IS OF BULK AT MOST 1048576: true; the input reads as it did. -/
def diceLinearUptoRow : OpenClaim := { program := "ytglgflibpgmilaa", sum := "52d949f46db7e5e75035bab64de35d21146bb2b60e9e78e6b27551e963ac37ea", func := "wayfare/wayfarelaw02.DiceLinear", spec := "diceLinear", unfollowed := true, recurses := true, apart := false, narrowed := true }
def DiceLinearUptoSaid : Prop := diceLinearUptoRow.holds Try.pinned (OpenSpec.upto diceLinearSpec)

/-- 'wayfarelaw02.DiceSkips', WHERE WHAT IT READS IS OF BULK AT MOST 1048576: true; the input reads as it did. -/
def diceSkipsUptoRow : OpenClaim := { program := "ytglgflibpgmilaa", sum := "52d949f46db7e5e75035bab64de35d21146bb2b60e9e78e6b27551e963ac37ea", func := "wayfare/wayfarelaw02.DiceSkips", spec := "diceSkips", unfollowed := true, recurses := true, apart := false, narrowed := true }
def DiceSkipsUptoSaid : Prop := diceSkipsUptoRow.holds Try.pinned (OpenSpec.upto diceSkipsSpec)

/-- 'wayfarelaw02.DiceBelows', WHERE WHAT IT READS IS OF BULK AT MOST 1048576: true; the input reads as it did. -/
def diceBelowsUptoRow : OpenClaim := { program := "ytglgflibpgmilaa", sum := "52d949f46db7e5e75035bab64de35d21146bb2b60e9e78e6b27551e963ac37ea", func := "wayfare/wayfarelaw02.DiceBelows", spec := "diceBelows", unfollowed := true, recurses := true, apart := false, narrowed := true }
def DiceBelowsUptoSaid : Prop := diceBelowsUptoRow.holds Try.pinned (OpenSpec.upto diceBelowsSpec)

/-- 'wayfarelaw02.DiceAny', WHERE WHAT IT READS IS OF BULK AT MOST 1048576: true; the input reads as it did. -/
def diceAnyUptoRow : OpenClaim := { program := "ytglgflibpgmilaa", sum := "52d949f46db7e5e75035bab64de35d21146bb2b60e9e78e6b27551e963ac37ea", func := "wayfare/wayfarelaw02.DiceAny", spec := "diceAny", unfollowed := true, recurses := true, apart := false, narrowed := true }
def DiceAnyUptoSaid : Prop := diceAnyUptoRow.holds Try.pinned (OpenSpec.upto diceAnySpec)

end Rows
end Go.Proofs.Ytglgflibpgmilaa
