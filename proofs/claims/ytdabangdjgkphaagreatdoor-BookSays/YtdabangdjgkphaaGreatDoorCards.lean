/-
  DERIVED. GIVEN WITH THE SEED: THE CARDS: each row of YtdabangdjgkphaaGreatDoorRows.lean that lists a variable, with what it lists TIED to the program's text (the seventh form; the later family's looks); each row that meets fmt, with fmt's text TOLD by the authors' own Lean function (tested against real Go, not proved from fmt's source: count such statements apart). THE CARD IS WHAT COUNTS. Prove the row's statement (the work); the ties are given (YtdabangdjgkphaaGreatDoorTie.lean); close each card by the builder's one call (the guide's Derived/Test/ToyasCard.lean, 'card_holds'). Laid BY PROGRAM, IN A SANDBOX (cutbox-door.mjs). By AI agents, Wed Nov 11 2026. No macro, syntax, notation, axiom, sorry.
-/
import Derived.Test.YtdabangdjgkphaaGreatDoorRows
import GoSem.ClaimSeven
namespace Go.Proofs.YtdabangdjgkphaaGreatDoor
namespace Rows

/-- THE TIED CARD OF 'tallaw.BookSays'. -/
def bookSaysCard : Claim7 := { stood := { row := bookSaysRow, standIns := [], harness := (true, "3425e3f09099aa61680940f70affab578b10dc248cdb2fadbf625474fc6ef794"), looks := false }, kinds := [], alts := [], laidByText := true, laidKinds := [.data, .pinned], laidTests := true, laidLooks := .later }
def BookSaysCardSaid : Prop := Claim7.holds Tryz.pinned (.plain (OpenSpec.ofChange bookSaysSpec)) bookSaysCard

/-- THE TIED CARD OF 'tallaw.ClosingSays'. -/
def closingSaysCard : Claim7 := { stood := { row := closingSaysRow, standIns := [], harness := (true, "3425e3f09099aa61680940f70affab578b10dc248cdb2fadbf625474fc6ef794"), looks := false }, kinds := [], alts := [], laidByText := true, laidKinds := [.data, .pinned], laidTests := true, laidLooks := .later }
def ClosingSaysCardSaid : Prop := Claim7.holds Tryz.pinned (.plain (OpenSpec.ofChange closingSaysSpec)) closingSaysCard

/-- THE SECOND FORM's CARD OF 'tallaw.BookSays'. -/
def bookSaysUptoCard : Claim7 := { stood := { row := bookSaysUptoRow, standIns := [], harness := (true, "3425e3f09099aa61680940f70affab578b10dc248cdb2fadbf625474fc6ef794"), looks := false }, kinds := [], alts := [], laidByText := true, laidKinds := [.data, .pinned], laidTests := true, laidLooks := .later }
def BookSaysUptoCardSaid : Prop := Claim7.holds Tryz.pinned (.plain (OpenSpec.upto bookSaysSpec)) bookSaysUptoCard

/-- THE SECOND FORM's CARD OF 'tallaw.ClosingSays'. -/
def closingSaysUptoCard : Claim7 := { stood := { row := closingSaysUptoRow, standIns := [], harness := (true, "3425e3f09099aa61680940f70affab578b10dc248cdb2fadbf625474fc6ef794"), looks := false }, kinds := [], alts := [], laidByText := true, laidKinds := [.data, .pinned], laidTests := true, laidLooks := .later }
def ClosingSaysUptoCardSaid : Prop := Claim7.holds Tryz.pinned (.plain (OpenSpec.upto closingSaysSpec)) closingSaysUptoCard
end Rows
end Go.Proofs.YtdabangdjgkphaaGreatDoor
