/-
  NARROWER THAN 'FOR EVERY INPUT', by the rows' own cells (each row's printed sentence says how): EarnSays: laid · EarnMonths: laid · NumbersOwn: laid.
  DERIVED. THE GIVEN ROWS OF THIS SEAT. 3 by the template 'for every input the law returns true; each argument reads behind the call as it read before'; 0 by the template 'total and deterministic' (their statements: YtcfcbglnmhoknabDoorTotals.lean).
  GIVEN WITH THE SEED: the statements are not yours to turn. If you find one false, say at which input.
  Laid BY PROGRAM, IN A SANDBOX (cutbox-rows.mjs): the forced cells as the released guide's own fill.sh prints them over the translation 704c2349ca45b0d4… (all of the seat's roots in one cut). By AI agents, Wed Nov 11 2026. No macro, syntax, notation, axiom, sorry.
-/
import Derived.Test.YtcfcbglnmhoknabDoorChecked
import GoSem.Claim
import GoSem.ClaimJoined
import GoSem.ClaimMapViews
import Derived.JoinedTies
import Derived.KernelRfl
namespace Go.Proofs.YtcfcbglnmhoknabDoor
/- THE CELL 'sum', in the pinned program and in every row, IS THE sha256 OF THE DUMP (.gsa) THAT YtcfcbglnmhoknabDoorProg.lean LOADS. Nothing in Lean hashes anything: it is a label: what it is worth is what the hold of that sum in a sandbox is worth. -/
noncomputable def Tryd.pinned : Pinned := { name := "ytcfcbglnmhoknabdoor", sum := "704c2349ca45b0d4b5ea5db0ec77a8f13f0cd624a96aa51e115f9ebffca228bf", checked := Tryd.checked }
namespace Rows
def none {H : Type} : Left H := { results := [], args := [] }

/- WHAT THE LISTED PACKAGE-LEVEL VARIABLES READ AS WHEN THE CALL BEGINS. Each datum BY PROGRAM (the guide's laid-datum.mjs) off the statement by which the dump's own 'gosem.cut.vars' lays the variable. In a bare row this is a premise. The card (YtcfcbglnmhoknabDoorCards.lean) ties it to the program's text. -/
def laid_tallage_cal_monthDays {H : Type} : DataW H := .agg [.lit (.int .i64 31), .lit (.int .i64 28), .lit (.int .i64 31), .lit (.int .i64 30), .lit (.int .i64 31), .lit (.int .i64 30), .lit (.int .i64 31), .lit (.int .i64 31), .lit (.int .i64 30), .lit (.int .i64 31), .lit (.int .i64 30), .lit (.int .i64 31)]

/-- 'tallaw.EarnSays': WHATEVER THE INPUT: true; the input reads as it did. -/
def earnSaysSpec : ChangeSpec := { name := "earnSays", fn := fun _ => fun
  | [d1, d2, d3, d4] => { results := [.lit (.bool true)], args := [d1, d2, d3, d4] }
  | _ => none }
def earnSaysRow : OpenClaim := { program := "ytcfcbglnmhoknabdoor", sum := "704c2349ca45b0d4b5ea5db0ec77a8f13f0cd624a96aa51e115f9ebffca228bf", func := "tallage/tallaw.EarnSays", spec := "earnSays", unfollowed := true, recurses := true, named := ["tallage/cal.monthDays"], apart := false, laid := [("tallage/cal.monthDays", laid_tallage_cal_monthDays)] }
def EarnSaysSaid : Prop := earnSaysRow.holds Tryd.pinned (OpenSpec.ofChange earnSaysSpec)

/-- ITS FALSE NEIGHBOUR: 'it returns false'. Refute it at one input. -/
def earnSaysWrong : ChangeSpec := { name := "earnSays", fn := fun _ => fun
  | [d1, d2, d3, d4] => { results := [.lit (.bool false)], args := [d1, d2, d3, d4] }
  | _ => none }
def EarnSaysWrongFalsely : Prop := earnSaysRow.holds Tryd.pinned (OpenSpec.ofChange earnSaysWrong)

/-- 'talkeep.EarnMonths': WHATEVER THE INPUT: true; the input reads as it did. -/
def earnMonthsSpec : ChangeSpec := { name := "earnMonths", fn := fun _ => fun
  | [d1, d2, d3, d4] => { results := [.lit (.bool true)], args := [d1, d2, d3, d4] }
  | _ => none }
def earnMonthsRow : OpenClaim := { program := "ytcfcbglnmhoknabdoor", sum := "704c2349ca45b0d4b5ea5db0ec77a8f13f0cd624a96aa51e115f9ebffca228bf", func := "tallage/talkeep.EarnMonths", spec := "earnMonths", named := ["tallage/cal.monthDays"], apart := false, laid := [("tallage/cal.monthDays", laid_tallage_cal_monthDays)] }
def EarnMonthsSaid : Prop := earnMonthsRow.holds Tryd.pinned (OpenSpec.ofChange earnMonthsSpec)

/-- ITS FALSE NEIGHBOUR: 'it returns false'. Refute it at one input. -/
def earnMonthsWrong : ChangeSpec := { name := "earnMonths", fn := fun _ => fun
  | [d1, d2, d3, d4] => { results := [.lit (.bool false)], args := [d1, d2, d3, d4] }
  | _ => none }
def EarnMonthsWrongFalsely : Prop := earnMonthsRow.holds Tryd.pinned (OpenSpec.ofChange earnMonthsWrong)

/-- 'talkeep.NumbersOwn': WHATEVER THE INPUT: true; the input reads as it did. -/
def numbersOwnSpec : ChangeSpec := { name := "numbersOwn", fn := fun _ => fun
  | [d1, d2, d3] => { results := [.lit (.bool true)], args := [d1, d2, d3] }
  | _ => none }
def numbersOwnRow : OpenClaim := { program := "ytcfcbglnmhoknabdoor", sum := "704c2349ca45b0d4b5ea5db0ec77a8f13f0cd624a96aa51e115f9ebffca228bf", func := "tallage/talkeep.NumbersOwn", spec := "numbersOwn", unfollowed := true, recurses := true, named := ["tallage/cal.monthDays"], apart := false, laid := [("tallage/cal.monthDays", laid_tallage_cal_monthDays)] }
def NumbersOwnSaid : Prop := numbersOwnRow.holds Tryd.pinned (OpenSpec.ofChange numbersOwnSpec)

/-- ITS FALSE NEIGHBOUR: 'it returns false'. Refute it at one input. -/
def numbersOwnWrong : ChangeSpec := { name := "numbersOwn", fn := fun _ => fun
  | [d1, d2, d3] => { results := [.lit (.bool false)], args := [d1, d2, d3] }
  | _ => none }
def NumbersOwnWrongFalsely : Prop := numbersOwnRow.holds Tryd.pinned (OpenSpec.ofChange numbersOwnWrong)

/- THE SECOND FORM. 'bulk': how many values and letters a reading holds, each counted each time it is reached (what is shared counts as often as it is met; a slice's spare places count too). A statement '..UptoSaid' is the law's where the arguments, and the package variables that the reading takes, are together of bulk at most 1048576: NARROWER than '..Said'. Prove '..Said' where nothing that the law and all that it calls make is longer than what came in: it says more and counts as full. Else prove '..UptoSaid'. A law counts once. -/
mutual
def uptoBulk {H : Type} : DataW H → Nat
  | .lit (.string bytes) => bytes.length + 1
  | .lit _ => 1
  | .nil => 1
  | .ptr d => uptoBulk d + 1
  | .slice elems spare => uptoBulkAll elems + uptoBulkAll spare + 1
  | .agg parts => uptoBulkAll parts + 1
  | .iface _ d => uptoBulk d + 1
  | .map entries => uptoBulkEntries entries + 1
  | .held _ => 1
def uptoBulkAll {H : Type} : List (DataW H) → Nat
  | [] => 0
  | d :: r => uptoBulk d + uptoBulkAll r
def uptoBulkEntries {H : Type} : List (Lit × DataW H) → Nat
  | [] => 0
  | x :: r => uptoBulkEntry x + uptoBulkEntries r
def uptoBulkEntry {H : Type} : Lit × DataW H → Nat
  | (.string bytes, d) => bytes.length + uptoBulk d + 1
  | (_, d) => uptoBulk d + 1
 end
def uptoSmall : (H : Type) → List (DataW H) → Bool := fun _ ds => decide (uptoBulkAll ds ≤ 1048576)
def OpenSpec.upto (s : _root_.Go.ChangeSpec) : _root_.Go.OpenSpec := { _root_.Go.OpenSpec.ofChange s with cond := some uptoSmall }

/-- 'tallaw.EarnSays', WHERE WHAT IT READS IS OF BULK AT MOST 1048576: true; the input reads as it did. -/
def earnSaysUptoRow : OpenClaim := { program := "ytcfcbglnmhoknabdoor", sum := "704c2349ca45b0d4b5ea5db0ec77a8f13f0cd624a96aa51e115f9ebffca228bf", func := "tallage/tallaw.EarnSays", spec := "earnSays", unfollowed := true, recurses := true, named := ["tallage/cal.monthDays"], apart := false, laid := [("tallage/cal.monthDays", laid_tallage_cal_monthDays)], narrowed := true }
def EarnSaysUptoSaid : Prop := earnSaysUptoRow.holds Tryd.pinned (OpenSpec.upto earnSaysSpec)

/-- 'talkeep.EarnMonths', WHERE WHAT IT READS IS OF BULK AT MOST 1048576: true; the input reads as it did. -/
def earnMonthsUptoRow : OpenClaim := { program := "ytcfcbglnmhoknabdoor", sum := "704c2349ca45b0d4b5ea5db0ec77a8f13f0cd624a96aa51e115f9ebffca228bf", func := "tallage/talkeep.EarnMonths", spec := "earnMonths", named := ["tallage/cal.monthDays"], apart := false, laid := [("tallage/cal.monthDays", laid_tallage_cal_monthDays)], narrowed := true }
def EarnMonthsUptoSaid : Prop := earnMonthsUptoRow.holds Tryd.pinned (OpenSpec.upto earnMonthsSpec)

/-- 'talkeep.NumbersOwn', WHERE WHAT IT READS IS OF BULK AT MOST 1048576: true; the input reads as it did. -/
def numbersOwnUptoRow : OpenClaim := { program := "ytcfcbglnmhoknabdoor", sum := "704c2349ca45b0d4b5ea5db0ec77a8f13f0cd624a96aa51e115f9ebffca228bf", func := "tallage/talkeep.NumbersOwn", spec := "numbersOwn", unfollowed := true, recurses := true, named := ["tallage/cal.monthDays"], apart := false, laid := [("tallage/cal.monthDays", laid_tallage_cal_monthDays)], narrowed := true }
def NumbersOwnUptoSaid : Prop := numbersOwnUptoRow.holds Tryd.pinned (OpenSpec.upto numbersOwnSpec)

end Rows
end Go.Proofs.YtcfcbglnmhoknabDoor
