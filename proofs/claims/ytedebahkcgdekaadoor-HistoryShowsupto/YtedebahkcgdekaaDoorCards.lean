/-
  DERIVED. GIVEN WITH THE SEED: THE CARDS: each row of YtedebahkcgdekaaDoorRows.lean that lists a variable, with what it lists TIED to the program's text (the seventh form; the later family's looks); each row that meets fmt, with fmt's text TOLD by the authors' own Lean function (tested against real Go, not proved from fmt's source: count such statements apart). THE CARD IS WHAT COUNTS. Prove the row's statement (the work); the ties are given (YtedebahkcgdekaaDoorTie.lean); close each card by the builder's one call (the guide's Derived/Test/ToyasCard.lean, 'card_holds'). Laid BY PROGRAM, IN A SANDBOX (cutbox-door.mjs). By AI agents, Wed Nov 11 2026. No macro, syntax, notation, axiom, sorry.
-/
import Derived.Test.YtedebahkcgdekaaDoorRows
import GoSem.ClaimSeven
namespace Go.Proofs.YtedebahkcgdekaaDoor
namespace Rows

/-- THE TIED CARD OF 'wayfarelaw18.HistoryShows'. -/
def historyShowsCard : Claim7 := { stood := { row := historyShowsRow, standIns := [], harness := (true, "9ec980c61e845166284d1d61865f5f1eceb76f8ab5ed2a32cc5cd4cf1da62a44"), looks := false }, kinds := [], alts := [], laidByText := true, laidKinds := [.data, .data, .data, .data], laidTests := true, laidLooks := .later }
def HistoryShowsCardSaid : Prop := Claim7.holds Tryd.pinned (.plain (OpenSpec.ofChange historyShowsSpec)) historyShowsCard

/-- THE SECOND FORM's CARD OF 'wayfarelaw18.HistoryShows'. -/
def historyShowsUptoCard : Claim7 := { stood := { row := historyShowsUptoRow, standIns := [], harness := (true, "9ec980c61e845166284d1d61865f5f1eceb76f8ab5ed2a32cc5cd4cf1da62a44"), looks := false }, kinds := [], alts := [], laidByText := true, laidKinds := [.data, .data, .data, .data], laidTests := true, laidLooks := .later }
def HistoryShowsUptoCardSaid : Prop := Claim7.holds Tryd.pinned (.plain (OpenSpec.upto historyShowsSpec)) historyShowsUptoCard
end Rows
end Go.Proofs.YtedebahkcgdekaaDoor
