/-
  DERIVED. GIVEN WITH THE SEED: THE CARDS: each row of YtbaahnafmfjpaaaGreatDoorRows.lean that lists a variable, with what it lists TIED to the program's text (the seventh form; the later family's looks); each row that meets fmt, with fmt's text TOLD by the authors' own Lean function (tested against real Go, not proved from fmt's source: count such statements apart). THE CARD IS WHAT COUNTS. Prove the row's statement (the work); the ties are given (YtbaahnafmfjpaaaGreatDoorTie.lean); close each card by the builder's one call (the guide's Derived/Test/ToyasCard.lean, 'card_holds'). Laid BY PROGRAM, IN A SANDBOX (cutbox-door.mjs). By AI agents, Wed Nov 11 2026. No macro, syntax, notation, axiom, sorry.
-/
import Derived.Test.YtbaahnafmfjpaaaGreatDoorRows
import GoSem.ClaimSeven
namespace Go.Proofs.YtbaahnafmfjpaaaGreatDoor
namespace Rows

/-- THE TIED CARD OF 'tallaw.ClosingSays'. -/
def closingSaysCard : Claim7 := { stood := { row := closingSaysRow, standIns := [], harness := (true, "c152d0ce0bd544f020761699f59325ad4740a2bf03c796b703f3dd660c9d1690"), looks := false }, kinds := [], alts := [], laidByText := true, laidKinds := [.data, .pinned], laidTests := true, laidLooks := .later }
def ClosingSaysCardSaid : Prop := Claim7.holds Tryz.pinned (.plain (OpenSpec.ofChange closingSaysSpec)) closingSaysCard

/-- THE SECOND FORM's CARD OF 'tallaw.ClosingSays'. -/
def closingSaysUptoCard : Claim7 := { stood := { row := closingSaysUptoRow, standIns := [], harness := (true, "c152d0ce0bd544f020761699f59325ad4740a2bf03c796b703f3dd660c9d1690"), looks := false }, kinds := [], alts := [], laidByText := true, laidKinds := [.data, .pinned], laidTests := true, laidLooks := .later }
def ClosingSaysUptoCardSaid : Prop := Claim7.holds Tryz.pinned (.plain (OpenSpec.upto closingSaysSpec)) closingSaysUptoCard
end Rows
end Go.Proofs.YtbaahnafmfjpaaaGreatDoor
