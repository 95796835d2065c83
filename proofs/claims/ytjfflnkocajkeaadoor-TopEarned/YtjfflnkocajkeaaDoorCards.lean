/-
  DERIVED. GIVEN WITH THE SEED: THE CARDS: each row of YtjfflnkocajkeaaDoorRows.lean that lists a variable, with what it lists TIED to the program's text (the seventh form; the later family's looks); each row that meets fmt, with fmt's text TOLD by the authors' own Lean function (tested against real Go, not proved from fmt's source: count such statements apart). THE CARD IS WHAT COUNTS. Prove the row's statement (the work); the ties are given (YtjfflnkocajkeaaDoorTie.lean); close each card by the builder's one call (the guide's Derived/Test/ToyasCard.lean, 'card_holds'). Laid BY PROGRAM, IN A SANDBOX (cutbox-door.mjs). By AI agents, Wed Nov 11 2026. No macro, syntax, notation, axiom, sorry.
-/
import Derived.Test.YtjfflnkocajkeaaDoorRows
import GoSem.ClaimSeven
namespace Go.Proofs.YtjfflnkocajkeaaDoor
namespace Rows

/-- THE TIED CARD OF 'tallaw.TrialSays'. -/
def trialSaysCard : Claim7 := { stood := { row := trialSaysRow, standIns := [], harness := (true, "11dd8ab15519fb7552247ac40465215530c35581a8b1f0e3c9463a396ee716e6"), looks := false }, kinds := [], alts := [], laidByText := true, laidKinds := [.data, .pinned], laidTests := true, laidLooks := .later }
def TrialSaysCardSaid : Prop := Claim7.holds Tryd.pinned (.plain (OpenSpec.ofChange trialSaysSpec)) trialSaysCard

/-- THE TIED CARD OF 'taltop.TopEarned'. -/
def topEarnedCard : Claim7 := { stood := { row := topEarnedRow, standIns := [], harness := (true, "11dd8ab15519fb7552247ac40465215530c35581a8b1f0e3c9463a396ee716e6"), looks := false }, kinds := [], alts := [], laidByText := true, laidKinds := [.data], laidTests := true, laidLooks := .later }
def TopEarnedCardSaid : Prop := Claim7.holds Tryd.pinned (.plain (OpenSpec.ofChange topEarnedSpec)) topEarnedCard

/-- THE SECOND FORM's CARD OF 'tallaw.TrialSays'. -/
def trialSaysUptoCard : Claim7 := { stood := { row := trialSaysUptoRow, standIns := [], harness := (true, "11dd8ab15519fb7552247ac40465215530c35581a8b1f0e3c9463a396ee716e6"), looks := false }, kinds := [], alts := [], laidByText := true, laidKinds := [.data, .pinned], laidTests := true, laidLooks := .later }
def TrialSaysUptoCardSaid : Prop := Claim7.holds Tryd.pinned (.plain (OpenSpec.upto trialSaysSpec)) trialSaysUptoCard

/-- THE SECOND FORM's CARD OF 'taltop.TopEarned'. -/
def topEarnedUptoCard : Claim7 := { stood := { row := topEarnedUptoRow, standIns := [], harness := (true, "11dd8ab15519fb7552247ac40465215530c35581a8b1f0e3c9463a396ee716e6"), looks := false }, kinds := [], alts := [], laidByText := true, laidKinds := [.data], laidTests := true, laidLooks := .later }
def TopEarnedUptoCardSaid : Prop := Claim7.holds Tryd.pinned (.plain (OpenSpec.upto topEarnedSpec)) topEarnedUptoCard
end Rows
end Go.Proofs.YtjfflnkocajkeaaDoor
