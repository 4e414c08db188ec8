/-
  DERIVED. GIVEN WITH THE SEED: THE CARDS: each row of YtmejgjhijdcahaaDoorRows.lean that lists a variable, with what it lists TIED to the program's text (the seventh form; the later family's looks); each row that meets fmt, with fmt's text TOLD by the authors' own Lean function (tested against real Go, not proved from fmt's source: count such statements apart). THE CARD IS WHAT COUNTS. Prove the row's statement (the work); the ties are given (YtmejgjhijdcahaaDoorTie.lean); close each card by the builder's one call (the guide's Derived/Test/ToyasCard.lean, 'card_holds'). Laid BY PROGRAM, IN A SANDBOX (cutbox-door.mjs). By AI agents, Wed Nov 11 2026. No macro, syntax, notation, axiom, sorry.
-/
import Derived.Test.YtmejgjhijdcahaaDoorRows
import GoSem.ClaimSeven
namespace Go.Proofs.YtmejgjhijdcahaaDoor
namespace Rows

/-- THE TIED CARD OF 'wayfarelaw07.DimacsShows'. -/
def dimacsShowsCard : Claim7 := { stood := { row := dimacsShowsRow, standIns := [], harness := (true, "46d2db250969578fb7dea42ac6181e6b98f328a3efedaa6c397b1748c143f517"), looks := false }, kinds := [], alts := [], laidByText := true, laidKinds := [.data, .data, .data], laidTests := true, laidLooks := .later }
def DimacsShowsCardSaid : Prop := Claim7.holds Tryd.pinned (.plain (OpenSpec.ofChange dimacsShowsSpec)) dimacsShowsCard

/-- THE SECOND FORM's CARD OF 'wayfarelaw07.DimacsShows'. -/
def dimacsShowsUptoCard : Claim7 := { stood := { row := dimacsShowsUptoRow, standIns := [], harness := (true, "46d2db250969578fb7dea42ac6181e6b98f328a3efedaa6c397b1748c143f517"), looks := false }, kinds := [], alts := [], laidByText := true, laidKinds := [.data, .data, .data], laidTests := true, laidLooks := .later }
def DimacsShowsUptoCardSaid : Prop := Claim7.holds Tryd.pinned (.plain (OpenSpec.upto dimacsShowsSpec)) dimacsShowsUptoCard
end Rows
end Go.Proofs.YtmejgjhijdcahaaDoor
