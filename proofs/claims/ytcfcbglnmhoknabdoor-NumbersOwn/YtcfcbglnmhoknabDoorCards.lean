/-
  DERIVED. GIVEN WITH THE SEED: THE CARDS: each row of YtcfcbglnmhoknabDoorRows.lean that lists a variable, with what it lists TIED to the program's text (the seventh form; the later family's looks); each row that meets fmt, with fmt's text TOLD by the authors' own Lean function (tested against real Go, not proved from fmt's source: count such statements apart). THE CARD IS WHAT COUNTS. Prove the row's statement (the work); the ties are given (YtcfcbglnmhoknabDoorTie.lean); close each card by the builder's one call (the guide's Derived/Test/ToyasCard.lean, 'card_holds'). Laid BY PROGRAM, IN A SANDBOX (cutbox-door.mjs). By AI agents, Wed Nov 11 2026. No macro, syntax, notation, axiom, sorry.
-/
import Derived.Test.YtcfcbglnmhoknabDoorRows
import GoSem.ClaimSeven
namespace Go.Proofs.YtcfcbglnmhoknabDoor
namespace Rows

/-- THE TIED CARD OF 'tallaw.EarnSays'. -/
def earnSaysCard : Claim7 := { stood := { row := earnSaysRow, standIns := [], harness := (true, "45ea9acfd2b785745cd4fa3064f0eea31dca3b111d27bd066a23abe6a742c264"), looks := false }, kinds := [], alts := [], laidByText := true, laidKinds := [.data], laidTests := true, laidLooks := .later }
def EarnSaysCardSaid : Prop := Claim7.holds Tryd.pinned (.plain (OpenSpec.ofChange earnSaysSpec)) earnSaysCard

/-- THE TIED CARD OF 'talkeep.EarnMonths'. -/
def earnMonthsCard : Claim7 := { stood := { row := earnMonthsRow, standIns := [], harness := (true, "45ea9acfd2b785745cd4fa3064f0eea31dca3b111d27bd066a23abe6a742c264"), looks := false }, kinds := [], alts := [], laidByText := true, laidKinds := [.data], laidTests := true, laidLooks := .later }
def EarnMonthsCardSaid : Prop := Claim7.holds Tryd.pinned (.plain (OpenSpec.ofChange earnMonthsSpec)) earnMonthsCard

/-- THE TIED CARD OF 'talkeep.NumbersOwn'. -/
def numbersOwnCard : Claim7 := { stood := { row := numbersOwnRow, standIns := [], harness := (true, "45ea9acfd2b785745cd4fa3064f0eea31dca3b111d27bd066a23abe6a742c264"), looks := false }, kinds := [], alts := [], laidByText := true, laidKinds := [.data], laidTests := true, laidLooks := .later }
def NumbersOwnCardSaid : Prop := Claim7.holds Tryd.pinned (.plain (OpenSpec.ofChange numbersOwnSpec)) numbersOwnCard

/-- THE SECOND FORM's CARD OF 'tallaw.EarnSays'. -/
def earnSaysUptoCard : Claim7 := { stood := { row := earnSaysUptoRow, standIns := [], harness := (true, "45ea9acfd2b785745cd4fa3064f0eea31dca3b111d27bd066a23abe6a742c264"), looks := false }, kinds := [], alts := [], laidByText := true, laidKinds := [.data], laidTests := true, laidLooks := .later }
def EarnSaysUptoCardSaid : Prop := Claim7.holds Tryd.pinned (.plain (OpenSpec.upto earnSaysSpec)) earnSaysUptoCard

/-- THE SECOND FORM's CARD OF 'talkeep.EarnMonths'. -/
def earnMonthsUptoCard : Claim7 := { stood := { row := earnMonthsUptoRow, standIns := [], harness := (true, "45ea9acfd2b785745cd4fa3064f0eea31dca3b111d27bd066a23abe6a742c264"), looks := false }, kinds := [], alts := [], laidByText := true, laidKinds := [.data], laidTests := true, laidLooks := .later }
def EarnMonthsUptoCardSaid : Prop := Claim7.holds Tryd.pinned (.plain (OpenSpec.upto earnMonthsSpec)) earnMonthsUptoCard

/-- THE SECOND FORM's CARD OF 'talkeep.NumbersOwn'. -/
def numbersOwnUptoCard : Claim7 := { stood := { row := numbersOwnUptoRow, standIns := [], harness := (true, "45ea9acfd2b785745cd4fa3064f0eea31dca3b111d27bd066a23abe6a742c264"), looks := false }, kinds := [], alts := [], laidByText := true, laidKinds := [.data], laidTests := true, laidLooks := .later }
def NumbersOwnUptoCardSaid : Prop := Claim7.holds Tryd.pinned (.plain (OpenSpec.upto numbersOwnSpec)) numbersOwnUptoCard
end Rows
end Go.Proofs.YtcfcbglnmhoknabDoor
