/-
  NARROWER THAN 'FOR EVERY INPUT', by the rows' own cells (each row's printed sentence says how): OctetBurst: laid · TopSealed: laid · OctetBack: laid · OctetFresh: laid · OctetWrites: laid · OctetReads: laid · OctetSums: laid · OctetJoins: laid.
  DERIVED. THE GIVEN ROWS OF THIS SEAT. 8 by the template 'for every input the law returns true; each argument reads behind the call as it read before'; 0 by the template 'total and deterministic' (their statements: YtpfpelhhebafeaaDoorTotals.lean).
  GIVEN WITH THE SEED: the statements are not yours to turn. If you find one false, say at which input.
  Laid BY PROGRAM, IN A SANDBOX (cutbox-rows.mjs): the forced cells as the released guide's own fill.sh prints them over the translation b9bc384603e28c3f… (all of the seat's roots in one cut). By AI agents, Wed Nov 11 2026. No macro, syntax, notation, axiom, sorry.
-/
import Derived.Test.YtpfpelhhebafeaaDoorChecked
import GoSem.Claim
import GoSem.ClaimJoined
import GoSem.ClaimMapViews
import Derived.JoinedTies
import Derived.KernelRfl
namespace Go.Proofs.YtpfpelhhebafeaaDoor
/- THE CELL 'sum', in the pinned program and in every row, IS THE sha256 OF THE DUMP (.gsa) THAT YtpfpelhhebafeaaDoorProg.lean LOADS. Nothing in Lean hashes anything: it is a label: what it is worth is what the hold of that sum in a sandbox is worth. -/
noncomputable def Tryd.pinned : Pinned := { name := "ytpfpelhhebafeaadoor", sum := "b9bc384603e28c3fe94328f6e2264b68feb9000d60e786009f75d4183f23c960", checked := Tryd.checked }
namespace Rows
def none {H : Type} : Left H := { results := [], args := [] }

/- WHAT THE LISTED PACKAGE-LEVEL VARIABLES READ AS WHEN THE CALL BEGINS. Each datum BY PROGRAM (the guide's laid-datum.mjs) off the statement by which the dump's own 'gosem.cut.vars' lays the variable. In a bare row this is a premise. The card (YtpfpelhhebafeaaDoorCards.lean) ties it to the program's text. -/
def laid_wayfare_octet_sums {H : Type} : DataW H := .agg [.lit (.int .u32 0), .lit (.int .u32 274646895), .lit (.int .u32 549293790), .lit (.int .u32 820201905), .lit (.int .u32 1098587580), .lit (.int .u32 1361435347), .lit (.int .u32 1640403810), .lit (.int .u32 1905808397), .lit (.int .u32 2197175160), .lit (.int .u32 2460548119), .lit (.int .u32 2722870694), .lit (.int .u32 2987750089), .lit (.int .u32 3280807620), .lit (.int .u32 3553878443), .lit (.int .u32 3811616794), .lit (.int .u32 4084100981)]

/-- 'wayfarelaw01.OctetBurst': WHATEVER THE INPUT: true; the input reads as it did. -/
def octetBurstSpec : ChangeSpec := { name := "octetBurst", fn := fun _ => fun
  | [d1, d2, d3] => { results := [.lit (.bool true)], args := [d1, d2, d3] }
  | _ => none }
def octetBurstRow : OpenClaim := { program := "ytpfpelhhebafeaadoor", sum := "b9bc384603e28c3fe94328f6e2264b68feb9000d60e786009f75d4183f23c960", func := "wayfare/wayfarelaw01.OctetBurst", spec := "octetBurst", named := ["wayfare/octet.sums"], apart := false, laid := [("wayfare/octet.sums", laid_wayfare_octet_sums)] }
def OctetBurstSaid : Prop := octetBurstRow.holds Tryd.pinned (OpenSpec.ofChange octetBurstSpec)

/-- ITS FALSE NEIGHBOUR: 'it returns false'. Refute it at one input. -/
def octetBurstWrong : ChangeSpec := { name := "octetBurst", fn := fun _ => fun
  | [d1, d2, d3] => { results := [.lit (.bool false)], args := [d1, d2, d3] }
  | _ => none }
def OctetBurstWrongFalsely : Prop := octetBurstRow.holds Tryd.pinned (OpenSpec.ofChange octetBurstWrong)

/-- 'wayfaretop.TopSealed': WHATEVER THE INPUT: true; the input reads as it did. -/
def topSealedSpec : ChangeSpec := { name := "topSealed", fn := fun _ => fun
  | [d1, d2, d3] => { results := [.lit (.bool true)], args := [d1, d2, d3] }
  | _ => none }
def topSealedRow : OpenClaim := { program := "ytpfpelhhebafeaadoor", sum := "b9bc384603e28c3fe94328f6e2264b68feb9000d60e786009f75d4183f23c960", func := "wayfare/wayfaretop.TopSealed", spec := "topSealed", named := ["wayfare/octet.sums"], apart := false, laid := [("wayfare/octet.sums", laid_wayfare_octet_sums)] }
def TopSealedSaid : Prop := topSealedRow.holds Tryd.pinned (OpenSpec.ofChange topSealedSpec)

/-- ITS FALSE NEIGHBOUR: 'it returns false'. Refute it at one input. -/
def topSealedWrong : ChangeSpec := { name := "topSealed", fn := fun _ => fun
  | [d1, d2, d3] => { results := [.lit (.bool false)], args := [d1, d2, d3] }
  | _ => none }
def TopSealedWrongFalsely : Prop := topSealedRow.holds Tryd.pinned (OpenSpec.ofChange topSealedWrong)

/-- 'wayfarelaw01.OctetBack': WHATEVER THE INPUT: true; the input reads as it did. -/
def octetBackSpec : ChangeSpec := { name := "octetBack", fn := fun _ => fun
  | [d] => { results := [.lit (.bool true)], args := [d] }
  | _ => none }
def octetBackRow : OpenClaim := { program := "ytpfpelhhebafeaadoor", sum := "b9bc384603e28c3fe94328f6e2264b68feb9000d60e786009f75d4183f23c960", func := "wayfare/wayfarelaw01.OctetBack", spec := "octetBack", named := ["wayfare/octet.sums"], apart := false, laid := [("wayfare/octet.sums", laid_wayfare_octet_sums)] }
def OctetBackSaid : Prop := octetBackRow.holds Tryd.pinned (OpenSpec.ofChange octetBackSpec)

/-- ITS FALSE NEIGHBOUR: 'it returns false'. Refute it at one input. -/
def octetBackWrong : ChangeSpec := { name := "octetBack", fn := fun _ => fun
  | [d] => { results := [.lit (.bool false)], args := [d] }
  | _ => none }
def OctetBackWrongFalsely : Prop := octetBackRow.holds Tryd.pinned (OpenSpec.ofChange octetBackWrong)

/-- 'wayfarelaw01.OctetFresh': WHATEVER THE INPUT: true; the input reads as it did. -/
def octetFreshSpec : ChangeSpec := { name := "octetFresh", fn := fun _ => fun
  | [d1, d2] => { results := [.lit (.bool true)], args := [d1, d2] }
  | _ => none }
def octetFreshRow : OpenClaim := { program := "ytpfpelhhebafeaadoor", sum := "b9bc384603e28c3fe94328f6e2264b68feb9000d60e786009f75d4183f23c960", func := "wayfare/wayfarelaw01.OctetFresh", spec := "octetFresh", named := ["wayfare/octet.sums"], apart := false, laid := [("wayfare/octet.sums", laid_wayfare_octet_sums)] }
def OctetFreshSaid : Prop := octetFreshRow.holds Tryd.pinned (OpenSpec.ofChange octetFreshSpec)

/-- ITS FALSE NEIGHBOUR: 'it returns false'. Refute it at one input. -/
def octetFreshWrong : ChangeSpec := { name := "octetFresh", fn := fun _ => fun
  | [d1, d2] => { results := [.lit (.bool false)], args := [d1, d2] }
  | _ => none }
def OctetFreshWrongFalsely : Prop := octetFreshRow.holds Tryd.pinned (OpenSpec.ofChange octetFreshWrong)

/-- 'wayfarelaw01.OctetWrites': WHATEVER THE INPUT: true; the input reads as it did. -/
def octetWritesSpec : ChangeSpec := { name := "octetWrites", fn := fun _ => fun
  | [d] => { results := [.lit (.bool true)], args := [d] }
  | _ => none }
def octetWritesRow : OpenClaim := { program := "ytpfpelhhebafeaadoor", sum := "b9bc384603e28c3fe94328f6e2264b68feb9000d60e786009f75d4183f23c960", func := "wayfare/wayfarelaw01.OctetWrites", spec := "octetWrites", named := ["wayfare/octet.sums"], apart := false, laid := [("wayfare/octet.sums", laid_wayfare_octet_sums)] }
def OctetWritesSaid : Prop := octetWritesRow.holds Tryd.pinned (OpenSpec.ofChange octetWritesSpec)

/-- ITS FALSE NEIGHBOUR: 'it returns false'. Refute it at one input. -/
def octetWritesWrong : ChangeSpec := { name := "octetWrites", fn := fun _ => fun
  | [d] => { results := [.lit (.bool false)], args := [d] }
  | _ => none }
def OctetWritesWrongFalsely : Prop := octetWritesRow.holds Tryd.pinned (OpenSpec.ofChange octetWritesWrong)

/-- 'wayfarelaw01.OctetReads': WHATEVER THE INPUT: true; the input reads as it did. -/
def octetReadsSpec : ChangeSpec := { name := "octetReads", fn := fun _ => fun
  | [d1, d2, d3] => { results := [.lit (.bool true)], args := [d1, d2, d3] }
  | _ => none }
def octetReadsRow : OpenClaim := { program := "ytpfpelhhebafeaadoor", sum := "b9bc384603e28c3fe94328f6e2264b68feb9000d60e786009f75d4183f23c960", func := "wayfare/wayfarelaw01.OctetReads", spec := "octetReads", named := ["wayfare/octet.sums"], apart := false, laid := [("wayfare/octet.sums", laid_wayfare_octet_sums)] }
def OctetReadsSaid : Prop := octetReadsRow.holds Tryd.pinned (OpenSpec.ofChange octetReadsSpec)

/-- ITS FALSE NEIGHBOUR: 'it returns false'. Refute it at one input. -/
def octetReadsWrong : ChangeSpec := { name := "octetReads", fn := fun _ => fun
  | [d1, d2, d3] => { results := [.lit (.bool false)], args := [d1, d2, d3] }
  | _ => none }
def OctetReadsWrongFalsely : Prop := octetReadsRow.holds Tryd.pinned (OpenSpec.ofChange octetReadsWrong)

/-- 'wayfarelaw01.OctetSums': WHATEVER THE INPUT: true; the input reads as it did. -/
def octetSumsSpec : ChangeSpec := { name := "octetSums", fn := fun _ => fun
  | [d1, d2, d3, d4] => { results := [.lit (.bool true)], args := [d1, d2, d3, d4] }
  | _ => none }
def octetSumsRow : OpenClaim := { program := "ytpfpelhhebafeaadoor", sum := "b9bc384603e28c3fe94328f6e2264b68feb9000d60e786009f75d4183f23c960", func := "wayfare/wayfarelaw01.OctetSums", spec := "octetSums", named := ["wayfare/octet.sums"], apart := false, laid := [("wayfare/octet.sums", laid_wayfare_octet_sums)] }
def OctetSumsSaid : Prop := octetSumsRow.holds Tryd.pinned (OpenSpec.ofChange octetSumsSpec)

/-- ITS FALSE NEIGHBOUR: 'it returns false'. Refute it at one input. -/
def octetSumsWrong : ChangeSpec := { name := "octetSums", fn := fun _ => fun
  | [d1, d2, d3, d4] => { results := [.lit (.bool false)], args := [d1, d2, d3, d4] }
  | _ => none }
def OctetSumsWrongFalsely : Prop := octetSumsRow.holds Tryd.pinned (OpenSpec.ofChange octetSumsWrong)

/-- 'wayfarelaw01.OctetJoins': WHATEVER THE INPUT: true; the input reads as it did. -/
def octetJoinsSpec : ChangeSpec := { name := "octetJoins", fn := fun _ => fun
  | [d1, d2, d3] => { results := [.lit (.bool true)], args := [d1, d2, d3] }
  | _ => none }
def octetJoinsRow : OpenClaim := { program := "ytpfpelhhebafeaadoor", sum := "b9bc384603e28c3fe94328f6e2264b68feb9000d60e786009f75d4183f23c960", func := "wayfare/wayfarelaw01.OctetJoins", spec := "octetJoins", named := ["wayfare/octet.sums"], apart := false, laid := [("wayfare/octet.sums", laid_wayfare_octet_sums)] }
def OctetJoinsSaid : Prop := octetJoinsRow.holds Tryd.pinned (OpenSpec.ofChange octetJoinsSpec)

/-- ITS FALSE NEIGHBOUR: 'it returns false'. Refute it at one input. -/
def octetJoinsWrong : ChangeSpec := { name := "octetJoins", fn := fun _ => fun
  | [d1, d2, d3] => { results := [.lit (.bool false)], args := [d1, d2, d3] }
  | _ => none }
def OctetJoinsWrongFalsely : Prop := octetJoinsRow.holds Tryd.pinned (OpenSpec.ofChange octetJoinsWrong)

/- THE SECOND FORM. 'bulk': how many values and letters a reading holds, each counted each time it is reached (what is shared counts as often as it is met; a slice's spare places count too). A statement '..UptoSaid' is the law's where the arguments, and the package variables that the reading takes, are together of bulk at most 1048576: NARROWER than '..Said'. Prove '..Said' where nothing that the law and all that it calls make is longer than what came in: it says more and counts as full. Else prove '..UptoSaid'. A law counts once. -/
mutual
def uptoBulk {H : Type} : DataW H → Nat
  | .lit (.string bytes) => bytes.length + 1
  | .lit _ => 1
  | .nil => 1
  | .ptr d => uptoBulk d + 1
  | .slice elems spare => uptoBulkAll elems + uptoBulkAll spare + 1
  | .agg parts => uptoBulkAll parts + 1
  | .iface _ d => uptoBulk d + 1
  | .map entries => uptoBulkEntries entries + 1
  | .held _ => 1
def uptoBulkAll {H : Type} : List (DataW H) → Nat
  | [] => 0
  | d :: r => uptoBulk d + uptoBulkAll r
def uptoBulkEntries {H : Type} : List (Lit × DataW H) → Nat
  | [] => 0
  | x :: r => uptoBulkEntry x + uptoBulkEntries r
def uptoBulkEntry {H : Type} : Lit × DataW H → Nat
  | (.string bytes, d) => bytes.length + uptoBulk d + 1
  | (_, d) => uptoBulk d + 1
 end
def uptoSmall : (H : Type) → List (DataW H) → Bool := fun _ ds => decide (uptoBulkAll ds ≤ 1048576)
def OpenSpec.upto (s : _root_.Go.ChangeSpec) : _root_.Go.OpenSpec := { _root_.Go.OpenSpec.ofChange s with cond := some uptoSmall }

/-- 'wayfarelaw01.OctetBurst', WHERE WHAT IT READS IS OF BULK AT MOST 1048576: true; the input reads as it did. -/
def octetBurstUptoRow : OpenClaim := { program := "ytpfpelhhebafeaadoor", sum := "b9bc384603e28c3fe94328f6e2264b68feb9000d60e786009f75d4183f23c960", func := "wayfare/wayfarelaw01.OctetBurst", spec := "octetBurst", named := ["wayfare/octet.sums"], apart := false, laid := [("wayfare/octet.sums", laid_wayfare_octet_sums)], narrowed := true }
def OctetBurstUptoSaid : Prop := octetBurstUptoRow.holds Tryd.pinned (OpenSpec.upto octetBurstSpec)

/-- 'wayfaretop.TopSealed', WHERE WHAT IT READS IS OF BULK AT MOST 1048576: true; the input reads as it did. -/
def topSealedUptoRow : OpenClaim := { program := "ytpfpelhhebafeaadoor", sum := "b9bc384603e28c3fe94328f6e2264b68feb9000d60e786009f75d4183f23c960", func := "wayfare/wayfaretop.TopSealed", spec := "topSealed", named := ["wayfare/octet.sums"], apart := false, laid := [("wayfare/octet.sums", laid_wayfare_octet_sums)], narrowed := true }
def TopSealedUptoSaid : Prop := topSealedUptoRow.holds Tryd.pinned (OpenSpec.upto topSealedSpec)

/-- 'wayfarelaw01.OctetBack', WHERE WHAT IT READS IS OF BULK AT MOST 1048576: true; the input reads as it did. -/
def octetBackUptoRow : OpenClaim := { program := "ytpfpelhhebafeaadoor", sum := "b9bc384603e28c3fe94328f6e2264b68feb9000d60e786009f75d4183f23c960", func := "wayfare/wayfarelaw01.OctetBack", spec := "octetBack", named := ["wayfare/octet.sums"], apart := false, laid := [("wayfare/octet.sums", laid_wayfare_octet_sums)], narrowed := true }
def OctetBackUptoSaid : Prop := octetBackUptoRow.holds Tryd.pinned (OpenSpec.upto octetBackSpec)

/-- 'wayfarelaw01.OctetFresh', WHERE WHAT IT READS IS OF BULK AT MOST 1048576: true; the input reads as it did. -/
def octetFreshUptoRow : OpenClaim := { program := "ytpfpelhhebafeaadoor", sum := "b9bc384603e28c3fe94328f6e2264b68feb9000d60e786009f75d4183f23c960", func := "wayfare/wayfarelaw01.OctetFresh", spec := "octetFresh", named := ["wayfare/octet.sums"], apart := false, laid := [("wayfare/octet.sums", laid_wayfare_octet_sums)], narrowed := true }
def OctetFreshUptoSaid : Prop := octetFreshUptoRow.holds Tryd.pinned (OpenSpec.upto octetFreshSpec)

/-- 'wayfarelaw01.OctetWrites', WHERE WHAT IT READS IS OF BULK AT MOST 1048576: true; the input reads as it did. -/
def octetWritesUptoRow : OpenClaim := { program := "ytpfpelhhebafeaadoor", sum := "b9bc384603e28c3fe94328f6e2264b68feb9000d60e786009f75d4183f23c960", func := "wayfare/wayfarelaw01.OctetWrites", spec := "octetWrites", named := ["wayfare/octet.sums"], apart := false, laid := [("wayfare/octet.sums", laid_wayfare_octet_sums)], narrowed := true }
def OctetWritesUptoSaid : Prop := octetWritesUptoRow.holds Tryd.pinned (OpenSpec.upto octetWritesSpec)

/-- 'wayfarelaw01.OctetReads', WHERE WHAT IT READS IS OF BULK AT MOST 1048576: true; the input reads as it did. -/
def octetReadsUptoRow : OpenClaim := { program := "ytpfpelhhebafeaadoor", sum := "b9bc384603e28c3fe94328f6e2264b68feb9000d60e786009f75d4183f23c960", func := "wayfare/wayfarelaw01.OctetReads", spec := "octetReads", named := ["wayfare/octet.sums"], apart := false, laid := [("wayfare/octet.sums", laid_wayfare_octet_sums)], narrowed := true }
def OctetReadsUptoSaid : Prop := octetReadsUptoRow.holds Tryd.pinned (OpenSpec.upto octetReadsSpec)

/-- 'wayfarelaw01.OctetSums', WHERE WHAT IT READS IS OF BULK AT MOST 1048576: true; the input reads as it did. -/
def octetSumsUptoRow : OpenClaim := { program := "ytpfpelhhebafeaadoor", sum := "b9bc384603e28c3fe94328f6e2264b68feb9000d60e786009f75d4183f23c960", func := "wayfare/wayfarelaw01.OctetSums", spec := "octetSums", named := ["wayfare/octet.sums"], apart := false, laid := [("wayfare/octet.sums", laid_wayfare_octet_sums)], narrowed := true }
def OctetSumsUptoSaid : Prop := octetSumsUptoRow.holds Tryd.pinned (OpenSpec.upto octetSumsSpec)

/-- 'wayfarelaw01.OctetJoins', WHERE WHAT IT READS IS OF BULK AT MOST 1048576: true; the input reads as it did. -/
def octetJoinsUptoRow : OpenClaim := { program := "ytpfpelhhebafeaadoor", sum := "b9bc384603e28c3fe94328f6e2264b68feb9000d60e786009f75d4183f23c960", func := "wayfare/wayfarelaw01.OctetJoins", spec := "octetJoins", named := ["wayfare/octet.sums"], apart := false, laid := [("wayfare/octet.sums", laid_wayfare_octet_sums)], narrowed := true }
def OctetJoinsUptoSaid : Prop := octetJoinsUptoRow.holds Tryd.pinned (OpenSpec.upto octetJoinsSpec)

end Rows
end Go.Proofs.YtpfpelhhebafeaaDoor
