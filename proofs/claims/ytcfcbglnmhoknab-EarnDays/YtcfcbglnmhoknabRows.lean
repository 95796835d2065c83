/-
  No cell of these rows narrows 'for every input' (looked for: loops, veiled, ifaces, maps, wideKeys, modest, calm, conditions, laid).
  DERIVED. THE GIVEN ROWS OF THIS SEAT. 3 by the template 'for every input the law returns true; each argument reads behind the call as it read before'; 0 by the template 'total and deterministic' (their statements: YtcfcbglnmhoknabTotals.lean).
  GIVEN WITH THE SEED: the statements are not yours to turn. If you find one false, say at which input.
  Laid BY PROGRAM, IN A SANDBOX (cutbox-rows.mjs): the forced cells as the released guide's own fill.sh prints them over the translation 735e6659bd0e0d8f… (all of the seat's roots in one cut). By AI agents, Wed Nov 11 2026. No macro, syntax, notation, axiom, sorry.
-/
import Derived.Test.YtcfcbglnmhoknabChecked
import GoSem.Claim
import GoSem.ClaimJoined
import GoSem.ClaimMapViews
import Derived.JoinedTies
import Derived.KernelRfl
namespace Go.Proofs.Ytcfcbglnmhoknab
/- THE CELL 'sum', in the pinned program and in every row, IS THE sha256 OF THE DUMP (.gsa) THAT YtcfcbglnmhoknabProg.lean LOADS. Nothing in Lean hashes anything: it is a label: what it is worth is what the hold of that sum in a sandbox is worth. -/
noncomputable def Try.pinned : Pinned := { name := "ytcfcbglnmhoknab", sum := "735e6659bd0e0d8f6cb73ae5a5a983a266378d3dea6c83fd1d4f14e3f0eccd1a", checked := Try.checked }
namespace Rows
def none {H : Type} : Left H := { results := [], args := [] }

/-- 'talkeep.EarnWhole': WHATEVER THE INPUT: true; the input reads as it did. -/
def earnWholeSpec : ChangeSpec := { name := "earnWhole", fn := fun _ => fun
  | [d1, d2, d3, d4, d5] => { results := [.lit (.bool true)], args := [d1, d2, d3, d4, d5] }
  | _ => none }
def earnWholeRow : OpenClaim := { program := "ytcfcbglnmhoknab", sum := "735e6659bd0e0d8f6cb73ae5a5a983a266378d3dea6c83fd1d4f14e3f0eccd1a", func := "tallage/talkeep.EarnWhole", spec := "earnWhole", apart := false }
def EarnWholeSaid : Prop := earnWholeRow.holds Try.pinned (OpenSpec.ofChange earnWholeSpec)

/-- ITS FALSE NEIGHBOUR: 'it returns false'. Refute it at one input. -/
def earnWholeWrong : ChangeSpec := { name := "earnWhole", fn := fun _ => fun
  | [d1, d2, d3, d4, d5] => { results := [.lit (.bool false)], args := [d1, d2, d3, d4, d5] }
  | _ => none }
def EarnWholeWrongFalsely : Prop := earnWholeRow.holds Try.pinned (OpenSpec.ofChange earnWholeWrong)

/-- 'talkeep.EarnTurned': WHATEVER THE INPUT: true; the input reads as it did. -/
def earnTurnedSpec : ChangeSpec := { name := "earnTurned", fn := fun _ => fun
  | [d1, d2, d3, d4] => { results := [.lit (.bool true)], args := [d1, d2, d3, d4] }
  | _ => none }
def earnTurnedRow : OpenClaim := { program := "ytcfcbglnmhoknab", sum := "735e6659bd0e0d8f6cb73ae5a5a983a266378d3dea6c83fd1d4f14e3f0eccd1a", func := "tallage/talkeep.EarnTurned", spec := "earnTurned", apart := false }
def EarnTurnedSaid : Prop := earnTurnedRow.holds Try.pinned (OpenSpec.ofChange earnTurnedSpec)

/-- ITS FALSE NEIGHBOUR: 'it returns false'. Refute it at one input. -/
def earnTurnedWrong : ChangeSpec := { name := "earnTurned", fn := fun _ => fun
  | [d1, d2, d3, d4] => { results := [.lit (.bool false)], args := [d1, d2, d3, d4] }
  | _ => none }
def EarnTurnedWrongFalsely : Prop := earnTurnedRow.holds Try.pinned (OpenSpec.ofChange earnTurnedWrong)

/-- 'talkeep.EarnDays': WHATEVER THE INPUT: true; the input reads as it did. -/
def earnDaysSpec : ChangeSpec := { name := "earnDays", fn := fun _ => fun
  | [d1, d2, d3, d4] => { results := [.lit (.bool true)], args := [d1, d2, d3, d4] }
  | _ => none }
def earnDaysRow : OpenClaim := { program := "ytcfcbglnmhoknab", sum := "735e6659bd0e0d8f6cb73ae5a5a983a266378d3dea6c83fd1d4f14e3f0eccd1a", func := "tallage/talkeep.EarnDays", spec := "earnDays", apart := false }
def EarnDaysSaid : Prop := earnDaysRow.holds Try.pinned (OpenSpec.ofChange earnDaysSpec)

/-- ITS FALSE NEIGHBOUR: 'it returns false'. Refute it at one input. -/
def earnDaysWrong : ChangeSpec := { name := "earnDays", fn := fun _ => fun
  | [d1, d2, d3, d4] => { results := [.lit (.bool false)], args := [d1, d2, d3, d4] }
  | _ => none }
def EarnDaysWrongFalsely : Prop := earnDaysRow.holds Try.pinned (OpenSpec.ofChange earnDaysWrong)

/- THE SECOND FORM. 'bulk': how many values and letters a reading holds, each counted each time it is reached (what is shared counts as often as it is met; a slice's spare places count too). A statement '..UptoSaid' is the law's where the arguments, and the package variables that the reading takes, are together of bulk at most 1048576: NARROWER than '..Said'. Prove '..Said' where nothing that the law and all that it calls make is longer than what came in: it says more and counts as full. Else prove '..UptoSaid'. A law counts once. -/
mutual
def uptoBulk {H : Type} : DataW H → Nat
  | .lit (.string bytes) => bytes.length + 1
  | .lit _ => 1
  | .nil => 1
  | .ptr d => uptoBulk d + 1
  | .slice elems spare => uptoBulkAll elems + uptoBulkAll spare + 1
  | .agg parts => uptoBulkAll parts + 1
  | .iface _ d => uptoBulk d + 1
  | .map entries => uptoBulkEntries entries + 1
  | .held _ => 1
def uptoBulkAll {H : Type} : List (DataW H) → Nat
  | [] => 0
  | d :: r => uptoBulk d + uptoBulkAll r
def uptoBulkEntries {H : Type} : List (Lit × DataW H) → Nat
  | [] => 0
  | x :: r => uptoBulkEntry x + uptoBulkEntries r
def uptoBulkEntry {H : Type} : Lit × DataW H → Nat
  | (.string bytes, d) => bytes.length + uptoBulk d + 1
  | (_, d) => uptoBulk d + 1
 end
def uptoSmall : (H : Type) → List (DataW H) → Bool := fun _ ds => decide (uptoBulkAll ds ≤ 1048576)
def OpenSpec.upto (s : _root_.Go.ChangeSpec) : _root_.Go.OpenSpec := { _root_.Go.OpenSpec.ofChange s with cond := some uptoSmall }

/-- 'talkeep.EarnWhole', WHERE WHAT IT READS IS OF BULK AT MOST 1048576: true; the input reads as it did. -/
def earnWholeUptoRow : OpenClaim := { program := "ytcfcbglnmhoknab", sum := "735e6659bd0e0d8f6cb73ae5a5a983a266378d3dea6c83fd1d4f14e3f0eccd1a", func := "tallage/talkeep.EarnWhole", spec := "earnWhole", apart := false, narrowed := true }
def EarnWholeUptoSaid : Prop := earnWholeUptoRow.holds Try.pinned (OpenSpec.upto earnWholeSpec)

/-- 'talkeep.EarnTurned', WHERE WHAT IT READS IS OF BULK AT MOST 1048576: true; the input reads as it did. -/
def earnTurnedUptoRow : OpenClaim := { program := "ytcfcbglnmhoknab", sum := "735e6659bd0e0d8f6cb73ae5a5a983a266378d3dea6c83fd1d4f14e3f0eccd1a", func := "tallage/talkeep.EarnTurned", spec := "earnTurned", apart := false, narrowed := true }
def EarnTurnedUptoSaid : Prop := earnTurnedUptoRow.holds Try.pinned (OpenSpec.upto earnTurnedSpec)

/-- 'talkeep.EarnDays', WHERE WHAT IT READS IS OF BULK AT MOST 1048576: true; the input reads as it did. -/
def earnDaysUptoRow : OpenClaim := { program := "ytcfcbglnmhoknab", sum := "735e6659bd0e0d8f6cb73ae5a5a983a266378d3dea6c83fd1d4f14e3f0eccd1a", func := "tallage/talkeep.EarnDays", spec := "earnDays", apart := false, narrowed := true }
def EarnDaysUptoSaid : Prop := earnDaysUptoRow.holds Try.pinned (OpenSpec.upto earnDaysSpec)

end Rows
end Go.Proofs.Ytcfcbglnmhoknab
