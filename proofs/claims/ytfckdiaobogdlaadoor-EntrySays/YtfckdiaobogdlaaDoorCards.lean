/-
  DERIVED. GIVEN WITH THE SEED: THE CARDS: each row of YtfckdiaobogdlaaDoorRows.lean that lists a variable, with what it lists TIED to the program's text (the seventh form; the later family's looks); each row that meets fmt, with fmt's text TOLD by the authors' own Lean function (tested against real Go, not proved from fmt's source: count such statements apart). THE CARD IS WHAT COUNTS. Prove the row's statement (the work); the ties are given (YtfckdiaobogdlaaDoorTie.lean); close each card by the builder's one call (the guide's Derived/Test/ToyasCard.lean, 'card_holds'). Laid BY PROGRAM, IN A SANDBOX (cutbox-door.mjs). By AI agents, Wed Nov 11 2026. No macro, syntax, notation, axiom, sorry.
-/
import Derived.Test.YtfckdiaobogdlaaDoorRows
import GoSem.ClaimSeven
namespace Go.Proofs.YtfckdiaobogdlaaDoor
namespace Rows

/-- THE TIED CARD OF 'tallaw.AcctSays'. -/
def acctSaysCard : Claim7 := { stood := { row := acctSaysRow, standIns := [], harness := (true, "ecc66ec85deb6520b55c7ee6f48a5da2dad7d322db9a7d3c3618f595550762e7"), looks := false }, kinds := [], alts := [], laidByText := true, laidKinds := [.data, .pinned], laidTests := true, laidLooks := .later }
def AcctSaysCardSaid : Prop := Claim7.holds Tryd.pinned (.plain (OpenSpec.ofChange acctSaysSpec)) acctSaysCard

/-- THE TIED CARD OF 'tallaw.EntrySays'. -/
def entrySaysCard : Claim7 := { stood := { row := entrySaysRow, standIns := [], harness := (true, "ecc66ec85deb6520b55c7ee6f48a5da2dad7d322db9a7d3c3618f595550762e7"), looks := false }, kinds := [], alts := [], laidByText := true, laidKinds := [.data, .pinned], laidTests := true, laidLooks := .later }
def EntrySaysCardSaid : Prop := Claim7.holds Tryd.pinned (.plain (OpenSpec.ofChange entrySaysSpec)) entrySaysCard

/-- THE SECOND FORM's CARD OF 'tallaw.AcctSays'. -/
def acctSaysUptoCard : Claim7 := { stood := { row := acctSaysUptoRow, standIns := [], harness := (true, "ecc66ec85deb6520b55c7ee6f48a5da2dad7d322db9a7d3c3618f595550762e7"), looks := false }, kinds := [], alts := [], laidByText := true, laidKinds := [.data, .pinned], laidTests := true, laidLooks := .later }
def AcctSaysUptoCardSaid : Prop := Claim7.holds Tryd.pinned (.plain (OpenSpec.upto acctSaysSpec)) acctSaysUptoCard

/-- THE SECOND FORM's CARD OF 'tallaw.EntrySays'. -/
def entrySaysUptoCard : Claim7 := { stood := { row := entrySaysUptoRow, standIns := [], harness := (true, "ecc66ec85deb6520b55c7ee6f48a5da2dad7d322db9a7d3c3618f595550762e7"), looks := false }, kinds := [], alts := [], laidByText := true, laidKinds := [.data, .pinned], laidTests := true, laidLooks := .later }
def EntrySaysUptoCardSaid : Prop := Claim7.holds Tryd.pinned (.plain (OpenSpec.upto entrySaysSpec)) entrySaysUptoCard
end Rows
end Go.Proofs.YtfckdiaobogdlaaDoor
