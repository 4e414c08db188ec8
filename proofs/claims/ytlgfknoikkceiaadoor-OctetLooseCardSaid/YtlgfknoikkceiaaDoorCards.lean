/-
  DERIVED. GIVEN WITH THE SEED: THE CARDS: each row of YtlgfknoikkceiaaDoorRows.lean that lists a variable, with what it lists TIED to the program's text (the seventh form; the later family's looks); each row that meets fmt, with fmt's text TOLD by the authors' own Lean function (tested against real Go, not proved from fmt's source: count such statements apart). THE CARD IS WHAT COUNTS. Prove the row's statement (the work); the ties are given (YtlgfknoikkceiaaDoorTie.lean); close each card by the builder's one call (the guide's Derived/Test/ToyasCard.lean, 'card_holds'). Laid BY PROGRAM, IN A SANDBOX (cutbox-door.mjs). By AI agents, Wed Nov 11 2026. No macro, syntax, notation, axiom, sorry.
-/
import Derived.Test.YtlgfknoikkceiaaDoorRows
import GoSem.ClaimSeven
namespace Go.Proofs.YtlgfknoikkceiaaDoor
namespace Rows

/-- THE TIED CARD OF 'wayfarelaw01.OctetLoose'. -/
def octetLooseCard : Claim7 := { stood := { row := octetLooseRow, standIns := [], harness := (true, "72cecb2f5eee2c747d24f2b9edc12c7c2e438cfd698a5b5c6e2f3c5c06774e78"), looks := false }, kinds := [], alts := [], laidByText := true, laidKinds := [.called], laidTests := true, laidLooks := .later }
def OctetLooseCardSaid : Prop := Claim7.holds Tryd.pinned (.plain (OpenSpec.ofChange octetLooseSpec)) octetLooseCard

/-- THE SECOND FORM's CARD OF 'wayfarelaw01.OctetLoose'. -/
def octetLooseUptoCard : Claim7 := { stood := { row := octetLooseUptoRow, standIns := [], harness := (true, "72cecb2f5eee2c747d24f2b9edc12c7c2e438cfd698a5b5c6e2f3c5c06774e78"), looks := false }, kinds := [], alts := [], laidByText := true, laidKinds := [.called], laidTests := true, laidLooks := .later }
def OctetLooseUptoCardSaid : Prop := Claim7.holds Tryd.pinned (.plain (OpenSpec.upto octetLooseSpec)) octetLooseUptoCard
end Rows
end Go.Proofs.YtlgfknoikkceiaaDoor
