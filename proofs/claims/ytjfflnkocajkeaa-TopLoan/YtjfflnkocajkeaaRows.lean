/-
  No cell of these rows narrows 'for every input' (looked for: loops, veiled, ifaces, maps, wideKeys, modest, calm, conditions, laid).
  DERIVED. THE GIVEN ROWS OF THIS SEAT. 9 by the template 'for every input the law returns true; each argument reads behind the call as it read before'; 0 by the template 'total and deterministic' (their statements: YtjfflnkocajkeaaTotals.lean).
  GIVEN WITH THE SEED: the statements are not yours to turn. If you find one false, say at which input.
  Laid BY PROGRAM, IN A SANDBOX (cutbox-rows.mjs): the forced cells as the released guide's own fill.sh prints them over the translation 04f54db3f2d72930… (all of the seat's roots in one cut). By AI agents, Wed Nov 11 2026. No macro, syntax, notation, axiom, sorry.
-/
import Derived.Test.YtjfflnkocajkeaaChecked
import GoSem.Claim
import GoSem.ClaimJoined
import GoSem.ClaimMapViews
import Derived.JoinedTies
import Derived.KernelRfl
namespace Go.Proofs.Ytjfflnkocajkeaa
/- THE CELL 'sum', in the pinned program and in every row, IS THE sha256 OF THE DUMP (.gsa) THAT YtjfflnkocajkeaaProg.lean LOADS. Nothing in Lean hashes anything: it is a label: what it is worth is what the hold of that sum in a sandbox is worth. -/
noncomputable def Try.pinned : Pinned := { name := "ytjfflnkocajkeaa", sum := "04f54db3f2d72930603c3ad38974357d88754f0fa3f6ef642eb3b42a44787e1b", checked := Try.checked }
namespace Rows
def none {H : Type} : Left H := { results := [], args := [] }

/-- 'talkeep.BookOrder': WHATEVER THE INPUT: true; the input reads as it did. -/
def bookOrderSpec : ChangeSpec := { name := "bookOrder", fn := fun _ => fun
  | [d1, d2, d3] => { results := [.lit (.bool true)], args := [d1, d2, d3] }
  | _ => none }
def bookOrderRow : OpenClaim := { program := "ytjfflnkocajkeaa", sum := "04f54db3f2d72930603c3ad38974357d88754f0fa3f6ef642eb3b42a44787e1b", func := "tallage/talkeep.BookOrder", spec := "bookOrder", inPlace := ["slices.overlaps[tallage/api.Entry]"], unfollowed := true, recurses := true, apart := false }
def BookOrderSaid : Prop := bookOrderRow.holds Try.pinned (OpenSpec.ofChange bookOrderSpec)

/-- ITS FALSE NEIGHBOUR: 'it returns false'. Refute it at one input. -/
def bookOrderWrong : ChangeSpec := { name := "bookOrder", fn := fun _ => fun
  | [d1, d2, d3] => { results := [.lit (.bool false)], args := [d1, d2, d3] }
  | _ => none }
def BookOrderWrongFalsely : Prop := bookOrderRow.holds Try.pinned (OpenSpec.ofChange bookOrderWrong)

/-- 'talkeep.TrialEqual': WHATEVER THE INPUT: true; the input reads as it did. -/
def trialEqualSpec : ChangeSpec := { name := "trialEqual", fn := fun _ => fun
  | [d1, d2] => { results := [.lit (.bool true)], args := [d1, d2] }
  | _ => none }
def trialEqualRow : OpenClaim := { program := "ytjfflnkocajkeaa", sum := "04f54db3f2d72930603c3ad38974357d88754f0fa3f6ef642eb3b42a44787e1b", func := "tallage/talkeep.TrialEqual", spec := "trialEqual", inPlace := ["slices.overlaps[tallage/api.Entry]"], unfollowed := true, recurses := true, apart := false }
def TrialEqualSaid : Prop := trialEqualRow.holds Try.pinned (OpenSpec.ofChange trialEqualSpec)

/-- ITS FALSE NEIGHBOUR: 'it returns false'. Refute it at one input. -/
def trialEqualWrong : ChangeSpec := { name := "trialEqual", fn := fun _ => fun
  | [d1, d2] => { results := [.lit (.bool false)], args := [d1, d2] }
  | _ => none }
def TrialEqualWrongFalsely : Prop := trialEqualRow.holds Try.pinned (OpenSpec.ofChange trialEqualWrong)

/-- 'talkeep.TrialSheet': WHATEVER THE INPUT: true; the input reads as it did. -/
def trialSheetSpec : ChangeSpec := { name := "trialSheet", fn := fun _ => fun
  | [d1, d2] => { results := [.lit (.bool true)], args := [d1, d2] }
  | _ => none }
def trialSheetRow : OpenClaim := { program := "ytjfflnkocajkeaa", sum := "04f54db3f2d72930603c3ad38974357d88754f0fa3f6ef642eb3b42a44787e1b", func := "tallage/talkeep.TrialSheet", spec := "trialSheet", inPlace := ["slices.overlaps[tallage/api.Entry]"], unfollowed := true, recurses := true, apart := false }
def TrialSheetSaid : Prop := trialSheetRow.holds Try.pinned (OpenSpec.ofChange trialSheetSpec)

/-- ITS FALSE NEIGHBOUR: 'it returns false'. Refute it at one input. -/
def trialSheetWrong : ChangeSpec := { name := "trialSheet", fn := fun _ => fun
  | [d1, d2] => { results := [.lit (.bool false)], args := [d1, d2] }
  | _ => none }
def TrialSheetWrongFalsely : Prop := trialSheetRow.holds Try.pinned (OpenSpec.ofChange trialSheetWrong)

/-- 'talkeep.TrialParts': WHATEVER THE INPUT: true; the input reads as it did. -/
def trialPartsSpec : ChangeSpec := { name := "trialParts", fn := fun _ => fun
  | [d1, d2, d3, d4] => { results := [.lit (.bool true)], args := [d1, d2, d3, d4] }
  | _ => none }
def trialPartsRow : OpenClaim := { program := "ytjfflnkocajkeaa", sum := "04f54db3f2d72930603c3ad38974357d88754f0fa3f6ef642eb3b42a44787e1b", func := "tallage/talkeep.TrialParts", spec := "trialParts", inPlace := ["slices.overlaps[tallage/api.Entry]"], unfollowed := true, recurses := true, apart := false }
def TrialPartsSaid : Prop := trialPartsRow.holds Try.pinned (OpenSpec.ofChange trialPartsSpec)

/-- ITS FALSE NEIGHBOUR: 'it returns false'. Refute it at one input. -/
def trialPartsWrong : ChangeSpec := { name := "trialParts", fn := fun _ => fun
  | [d1, d2, d3, d4] => { results := [.lit (.bool false)], args := [d1, d2, d3, d4] }
  | _ => none }
def TrialPartsWrongFalsely : Prop := trialPartsRow.holds Try.pinned (OpenSpec.ofChange trialPartsWrong)

/-- 'talkeep.TrialAdds': WHATEVER THE INPUT: true; the input reads as it did. -/
def trialAddsSpec : ChangeSpec := { name := "trialAdds", fn := fun _ => fun
  | [d1, d2, d3, d4] => { results := [.lit (.bool true)], args := [d1, d2, d3, d4] }
  | _ => none }
def trialAddsRow : OpenClaim := { program := "ytjfflnkocajkeaa", sum := "04f54db3f2d72930603c3ad38974357d88754f0fa3f6ef642eb3b42a44787e1b", func := "tallage/talkeep.TrialAdds", spec := "trialAdds", inPlace := ["slices.overlaps[tallage/api.Entry]", "internal/bytealg.abigen_runtime_cmpstring"], unfollowed := true, recurses := true, apart := false }
def TrialAddsSaid : Prop := trialAddsRow.holds Try.pinned (OpenSpec.ofChange trialAddsSpec)

/-- ITS FALSE NEIGHBOUR: 'it returns false'. Refute it at one input. -/
def trialAddsWrong : ChangeSpec := { name := "trialAdds", fn := fun _ => fun
  | [d1, d2, d3, d4] => { results := [.lit (.bool false)], args := [d1, d2, d3, d4] }
  | _ => none }
def TrialAddsWrongFalsely : Prop := trialAddsRow.holds Try.pinned (OpenSpec.ofChange trialAddsWrong)

/-- 'taltop.TopLoan': WHATEVER THE INPUT: true; the input reads as it did. -/
def topLoanSpec : ChangeSpec := { name := "topLoan", fn := fun _ => fun
  | [d1, d2, d3] => { results := [.lit (.bool true)], args := [d1, d2, d3] }
  | _ => none }
def topLoanRow : OpenClaim := { program := "ytjfflnkocajkeaa", sum := "04f54db3f2d72930603c3ad38974357d88754f0fa3f6ef642eb3b42a44787e1b", func := "tallage/taltop.TopLoan", spec := "topLoan", inPlace := ["slices.overlaps[tallage/api.Entry]"], unfollowed := true, recurses := true, apart := false }
def TopLoanSaid : Prop := topLoanRow.holds Try.pinned (OpenSpec.ofChange topLoanSpec)

/-- ITS FALSE NEIGHBOUR: 'it returns false'. Refute it at one input. -/
def topLoanWrong : ChangeSpec := { name := "topLoan", fn := fun _ => fun
  | [d1, d2, d3] => { results := [.lit (.bool false)], args := [d1, d2, d3] }
  | _ => none }
def TopLoanWrongFalsely : Prop := topLoanRow.holds Try.pinned (OpenSpec.ofChange topLoanWrong)

/-- 'taltop.TopSeats': WHATEVER THE INPUT: true; the input reads as it did. -/
def topSeatsSpec : ChangeSpec := { name := "topSeats", fn := fun _ => fun
  | [d1, d2] => { results := [.lit (.bool true)], args := [d1, d2] }
  | _ => none }
def topSeatsRow : OpenClaim := { program := "ytjfflnkocajkeaa", sum := "04f54db3f2d72930603c3ad38974357d88754f0fa3f6ef642eb3b42a44787e1b", func := "tallage/taltop.TopSeats", spec := "topSeats", inPlace := ["slices.overlaps[tallage/api.Entry]"], unfollowed := true, recurses := true, apart := false }
def TopSeatsSaid : Prop := topSeatsRow.holds Try.pinned (OpenSpec.ofChange topSeatsSpec)

/-- ITS FALSE NEIGHBOUR: 'it returns false'. Refute it at one input. -/
def topSeatsWrong : ChangeSpec := { name := "topSeats", fn := fun _ => fun
  | [d1, d2] => { results := [.lit (.bool false)], args := [d1, d2] }
  | _ => none }
def TopSeatsWrongFalsely : Prop := topSeatsRow.holds Try.pinned (OpenSpec.ofChange topSeatsWrong)

/-- 'taltop.TopOff': WHATEVER THE INPUT: true; the input reads as it did. -/
def topOffSpec : ChangeSpec := { name := "topOff", fn := fun _ => fun
  | [d1, d2, d3, d4, d5] => { results := [.lit (.bool true)], args := [d1, d2, d3, d4, d5] }
  | _ => none }
def topOffRow : OpenClaim := { program := "ytjfflnkocajkeaa", sum := "04f54db3f2d72930603c3ad38974357d88754f0fa3f6ef642eb3b42a44787e1b", func := "tallage/taltop.TopOff", spec := "topOff", inPlace := ["slices.overlaps[tallage/api.Entry]"], unfollowed := true, recurses := true, apart := false }
def TopOffSaid : Prop := topOffRow.holds Try.pinned (OpenSpec.ofChange topOffSpec)

/-- ITS FALSE NEIGHBOUR: 'it returns false'. Refute it at one input. -/
def topOffWrong : ChangeSpec := { name := "topOff", fn := fun _ => fun
  | [d1, d2, d3, d4, d5] => { results := [.lit (.bool false)], args := [d1, d2, d3, d4, d5] }
  | _ => none }
def TopOffWrongFalsely : Prop := topOffRow.holds Try.pinned (OpenSpec.ofChange topOffWrong)

/-- 'taltop.TopTax': WHATEVER THE INPUT: true; the input reads as it did. -/
def topTaxSpec : ChangeSpec := { name := "topTax", fn := fun _ => fun
  | [d1, d2, d3] => { results := [.lit (.bool true)], args := [d1, d2, d3] }
  | _ => none }
def topTaxRow : OpenClaim := { program := "ytjfflnkocajkeaa", sum := "04f54db3f2d72930603c3ad38974357d88754f0fa3f6ef642eb3b42a44787e1b", func := "tallage/taltop.TopTax", spec := "topTax", inPlace := ["slices.overlaps[tallage/api.Entry]"], unfollowed := true, recurses := true, apart := false }
def TopTaxSaid : Prop := topTaxRow.holds Try.pinned (OpenSpec.ofChange topTaxSpec)

/-- ITS FALSE NEIGHBOUR: 'it returns false'. Refute it at one input. -/
def topTaxWrong : ChangeSpec := { name := "topTax", fn := fun _ => fun
  | [d1, d2, d3] => { results := [.lit (.bool false)], args := [d1, d2, d3] }
  | _ => none }
def TopTaxWrongFalsely : Prop := topTaxRow.holds Try.pinned (OpenSpec.ofChange topTaxWrong)

/- THE SECOND FORM. 'bulk': how many values and letters a reading holds, each counted each time it is reached (what is shared counts as often as it is met; a slice's spare places count too). A statement '..UptoSaid' is the law's where the arguments, and the package variables that the reading takes, are together of bulk at most 1048576: NARROWER than '..Said'. Prove '..Said' where nothing that the law and all that it calls make is longer than what came in: it says more and counts as full. Else prove '..UptoSaid'. A law counts once. -/
mutual
def uptoBulk {H : Type} : DataW H → Nat
  | .lit (.string bytes) => bytes.length + 1
  | .lit _ => 1
  | .nil => 1
  | .ptr d => uptoBulk d + 1
  | .slice elems spare => uptoBulkAll elems + uptoBulkAll spare + 1
  | .agg parts => uptoBulkAll parts + 1
  | .iface _ d => uptoBulk d + 1
  | .map entries => uptoBulkEntries entries + 1
  | .held _ => 1
def uptoBulkAll {H : Type} : List (DataW H) → Nat
  | [] => 0
  | d :: r => uptoBulk d + uptoBulkAll r
def uptoBulkEntries {H : Type} : List (Lit × DataW H) → Nat
  | [] => 0
  | x :: r => uptoBulkEntry x + uptoBulkEntries r
def uptoBulkEntry {H : Type} : Lit × DataW H → Nat
  | (.string bytes, d) => bytes.length + uptoBulk d + 1
  | (_, d) => uptoBulk d + 1
 end
def uptoSmall : (H : Type) → List (DataW H) → Bool := fun _ ds => decide (uptoBulkAll ds ≤ 1048576)
def OpenSpec.upto (s : _root_.Go.ChangeSpec) : _root_.Go.OpenSpec := { _root_.Go.OpenSpec.ofChange s with cond := some uptoSmall }

/-- 'talkeep.BookOrder', WHERE WHAT IT READS IS OF BULK AT MOST 1048576: true; the input reads as it did. -/
def bookOrderUptoRow : OpenClaim := { program := "ytjfflnkocajkeaa", sum := "04f54db3f2d72930603c3ad38974357d88754f0fa3f6ef642eb3b42a44787e1b", func := "tallage/talkeep.BookOrder", spec := "bookOrder", inPlace := ["slices.overlaps[tallage/api.Entry]"], unfollowed := true, recurses := true, apart := false, narrowed := true }
def BookOrderUptoSaid : Prop := bookOrderUptoRow.holds Try.pinned (OpenSpec.upto bookOrderSpec)

/-- 'talkeep.TrialEqual', WHERE WHAT IT READS IS OF BULK AT MOST 1048576: true; the input reads as it did. -/
def trialEqualUptoRow : OpenClaim := { program := "ytjfflnkocajkeaa", sum := "04f54db3f2d72930603c3ad38974357d88754f0fa3f6ef642eb3b42a44787e1b", func := "tallage/talkeep.TrialEqual", spec := "trialEqual", inPlace := ["slices.overlaps[tallage/api.Entry]"], unfollowed := true, recurses := true, apart := false, narrowed := true }
def TrialEqualUptoSaid : Prop := trialEqualUptoRow.holds Try.pinned (OpenSpec.upto trialEqualSpec)

/-- 'talkeep.TrialSheet', WHERE WHAT IT READS IS OF BULK AT MOST 1048576: true; the input reads as it did. -/
def trialSheetUptoRow : OpenClaim := { program := "ytjfflnkocajkeaa", sum := "04f54db3f2d72930603c3ad38974357d88754f0fa3f6ef642eb3b42a44787e1b", func := "tallage/talkeep.TrialSheet", spec := "trialSheet", inPlace := ["slices.overlaps[tallage/api.Entry]"], unfollowed := true, recurses := true, apart := false, narrowed := true }
def TrialSheetUptoSaid : Prop := trialSheetUptoRow.holds Try.pinned (OpenSpec.upto trialSheetSpec)

/-- 'talkeep.TrialParts', WHERE WHAT IT READS IS OF BULK AT MOST 1048576: true; the input reads as it did. -/
def trialPartsUptoRow : OpenClaim := { program := "ytjfflnkocajkeaa", sum := "04f54db3f2d72930603c3ad38974357d88754f0fa3f6ef642eb3b42a44787e1b", func := "tallage/talkeep.TrialParts", spec := "trialParts", inPlace := ["slices.overlaps[tallage/api.Entry]"], unfollowed := true, recurses := true, apart := false, narrowed := true }
def TrialPartsUptoSaid : Prop := trialPartsUptoRow.holds Try.pinned (OpenSpec.upto trialPartsSpec)

/-- 'talkeep.TrialAdds', WHERE WHAT IT READS IS OF BULK AT MOST 1048576: true; the input reads as it did. -/
def trialAddsUptoRow : OpenClaim := { program := "ytjfflnkocajkeaa", sum := "04f54db3f2d72930603c3ad38974357d88754f0fa3f6ef642eb3b42a44787e1b", func := "tallage/talkeep.TrialAdds", spec := "trialAdds", inPlace := ["slices.overlaps[tallage/api.Entry]", "internal/bytealg.abigen_runtime_cmpstring"], unfollowed := true, recurses := true, apart := false, narrowed := true }
def TrialAddsUptoSaid : Prop := trialAddsUptoRow.holds Try.pinned (OpenSpec.upto trialAddsSpec)

/-- 'taltop.TopLoan', WHERE WHAT IT READS IS OF BULK AT MOST 1048576: true; the input reads as it did. -/
def topLoanUptoRow : OpenClaim := { program := "ytjfflnkocajkeaa", sum := "04f54db3f2d72930603c3ad38974357d88754f0fa3f6ef642eb3b42a44787e1b", func := "tallage/taltop.TopLoan", spec := "topLoan", inPlace := ["slices.overlaps[tallage/api.Entry]"], unfollowed := true, recurses := true, apart := false, narrowed := true }
def TopLoanUptoSaid : Prop := topLoanUptoRow.holds Try.pinned (OpenSpec.upto topLoanSpec)

/-- 'taltop.TopSeats', WHERE WHAT IT READS IS OF BULK AT MOST 1048576: true; the input reads as it did. -/
def topSeatsUptoRow : OpenClaim := { program := "ytjfflnkocajkeaa", sum := "04f54db3f2d72930603c3ad38974357d88754f0fa3f6ef642eb3b42a44787e1b", func := "tallage/taltop.TopSeats", spec := "topSeats", inPlace := ["slices.overlaps[tallage/api.Entry]"], unfollowed := true, recurses := true, apart := false, narrowed := true }
def TopSeatsUptoSaid : Prop := topSeatsUptoRow.holds Try.pinned (OpenSpec.upto topSeatsSpec)

/-- 'taltop.TopOff', WHERE WHAT IT READS IS OF BULK AT MOST 1048576: true; the input reads as it did. -/
def topOffUptoRow : OpenClaim := { program := "ytjfflnkocajkeaa", sum := "04f54db3f2d72930603c3ad38974357d88754f0fa3f6ef642eb3b42a44787e1b", func := "tallage/taltop.TopOff", spec := "topOff", inPlace := ["slices.overlaps[tallage/api.Entry]"], unfollowed := true, recurses := true, apart := false, narrowed := true }
def TopOffUptoSaid : Prop := topOffUptoRow.holds Try.pinned (OpenSpec.upto topOffSpec)

/-- 'taltop.TopTax', WHERE WHAT IT READS IS OF BULK AT MOST 1048576: true; the input reads as it did. -/
def topTaxUptoRow : OpenClaim := { program := "ytjfflnkocajkeaa", sum := "04f54db3f2d72930603c3ad38974357d88754f0fa3f6ef642eb3b42a44787e1b", func := "tallage/taltop.TopTax", spec := "topTax", inPlace := ["slices.overlaps[tallage/api.Entry]"], unfollowed := true, recurses := true, apart := false, narrowed := true }
def TopTaxUptoSaid : Prop := topTaxUptoRow.holds Try.pinned (OpenSpec.upto topTaxSpec)

end Rows
end Go.Proofs.Ytjfflnkocajkeaa
