/-
  No cell of these rows narrows 'for every input' (looked for: loops, veiled, ifaces, maps, wideKeys, modest, calm, conditions, laid).
  DERIVED. THE GIVEN ROWS OF THIS SEAT. 4 by the template 'for every input the law returns true; each argument reads behind the call as it read before'; 0 by the template 'total and deterministic' (their statements: YtcelkgbpgpgpjabTotals.lean).
  GIVEN WITH THE SEED: the statements are not yours to turn. If you find one false, say at which input.
  Laid BY PROGRAM, IN A SANDBOX (cutbox-rows.mjs): the forced cells as the released guide's own fill.sh prints them over the translation 437806e994a06382… (all of the seat's roots in one cut). By AI agents, Wed Nov 11 2026. No macro, syntax, notation, axiom, sorry.
-/
import Derived.Test.YtcelkgbpgpgpjabChecked
import GoSem.Claim
import GoSem.ClaimJoined
import GoSem.ClaimMapViews
import Derived.JoinedTies
import Derived.KernelRfl
namespace Go.Proofs.Ytcelkgbpgpgpjab
/- THE CELL 'sum', in the pinned program and in every row, IS THE sha256 OF THE DUMP (.gsa) THAT YtcelkgbpgpgpjabProg.lean LOADS. Nothing in Lean hashes anything: it is a label: what it is worth is what the hold of that sum in a sandbox is worth. -/
noncomputable def Try.pinned : Pinned := { name := "ytcelkgbpgpgpjab", sum := "437806e994a06382383cf89f45aff3f82afa2dcf0d0fe42b28023a30b6a2a282", checked := Try.checked }
namespace Rows
def none {H : Type} : Left H := { results := [], args := [] }

/-- 'tallaw.LineSays': WHATEVER THE INPUT: true; the input reads as it did. -/
def lineSaysSpec : ChangeSpec := { name := "lineSays", fn := fun _ => fun
  | [d1, d2, d3] => { results := [.lit (.bool true)], args := [d1, d2, d3] }
  | _ => none }
def lineSaysRow : OpenClaim := { program := "ytcelkgbpgpgpjab", sum := "437806e994a06382383cf89f45aff3f82afa2dcf0d0fe42b28023a30b6a2a282", func := "tallage/tallaw.LineSays", spec := "lineSays", unfollowed := true, recurses := true, apart := false }
def LineSaysSaid : Prop := lineSaysRow.holds Try.pinned (OpenSpec.ofChange lineSaysSpec)

/-- ITS FALSE NEIGHBOUR: 'it returns false'. Refute it at one input. -/
def lineSaysWrong : ChangeSpec := { name := "lineSays", fn := fun _ => fun
  | [d1, d2, d3] => { results := [.lit (.bool false)], args := [d1, d2, d3] }
  | _ => none }
def LineSaysWrongFalsely : Prop := lineSaysRow.holds Try.pinned (OpenSpec.ofChange lineSaysWrong)

/-- 'talkeep.LineSum': WHATEVER THE INPUT: true; the input reads as it did. -/
def lineSumSpec : ChangeSpec := { name := "lineSum", fn := fun _ => fun
  | [d1, d2, d3] => { results := [.lit (.bool true)], args := [d1, d2, d3] }
  | _ => none }
def lineSumRow : OpenClaim := { program := "ytcelkgbpgpgpjab", sum := "437806e994a06382383cf89f45aff3f82afa2dcf0d0fe42b28023a30b6a2a282", func := "tallage/talkeep.LineSum", spec := "lineSum", unfollowed := true, recurses := true, apart := false }
def LineSumSaid : Prop := lineSumRow.holds Try.pinned (OpenSpec.ofChange lineSumSpec)

/-- ITS FALSE NEIGHBOUR: 'it returns false'. Refute it at one input. -/
def lineSumWrong : ChangeSpec := { name := "lineSum", fn := fun _ => fun
  | [d1, d2, d3] => { results := [.lit (.bool false)], args := [d1, d2, d3] }
  | _ => none }
def LineSumWrongFalsely : Prop := lineSumRow.holds Try.pinned (OpenSpec.ofChange lineSumWrong)

/-- 'talkeep.LineFaster': WHATEVER THE INPUT: true; the input reads as it did. -/
def lineFasterSpec : ChangeSpec := { name := "lineFaster", fn := fun _ => fun
  | [d1, d2, d3, d4] => { results := [.lit (.bool true)], args := [d1, d2, d3, d4] }
  | _ => none }
def lineFasterRow : OpenClaim := { program := "ytcelkgbpgpgpjab", sum := "437806e994a06382383cf89f45aff3f82afa2dcf0d0fe42b28023a30b6a2a282", func := "tallage/talkeep.LineFaster", spec := "lineFaster", unfollowed := true, recurses := true, apart := false }
def LineFasterSaid : Prop := lineFasterRow.holds Try.pinned (OpenSpec.ofChange lineFasterSpec)

/-- ITS FALSE NEIGHBOUR: 'it returns false'. Refute it at one input. -/
def lineFasterWrong : ChangeSpec := { name := "lineFaster", fn := fun _ => fun
  | [d1, d2, d3, d4] => { results := [.lit (.bool false)], args := [d1, d2, d3, d4] }
  | _ => none }
def LineFasterWrongFalsely : Prop := lineFasterRow.holds Try.pinned (OpenSpec.ofChange lineFasterWrong)

/-- 'talkeep.LineMore': WHATEVER THE INPUT: true; the input reads as it did. -/
def lineMoreSpec : ChangeSpec := { name := "lineMore", fn := fun _ => fun
  | [d1, d2, d3, d4, d5] => { results := [.lit (.bool true)], args := [d1, d2, d3, d4, d5] }
  | _ => none }
def lineMoreRow : OpenClaim := { program := "ytcelkgbpgpgpjab", sum := "437806e994a06382383cf89f45aff3f82afa2dcf0d0fe42b28023a30b6a2a282", func := "tallage/talkeep.LineMore", spec := "lineMore", unfollowed := true, recurses := true, apart := false }
def LineMoreSaid : Prop := lineMoreRow.holds Try.pinned (OpenSpec.ofChange lineMoreSpec)

/-- ITS FALSE NEIGHBOUR: 'it returns false'. Refute it at one input. -/
def lineMoreWrong : ChangeSpec := { name := "lineMore", fn := fun _ => fun
  | [d1, d2, d3, d4, d5] => { results := [.lit (.bool false)], args := [d1, d2, d3, d4, d5] }
  | _ => none }
def LineMoreWrongFalsely : Prop := lineMoreRow.holds Try.pinned (OpenSpec.ofChange lineMoreWrong)

/- THE SECOND FORM. 'bulk': how many values and letters a reading holds, each counted each time it is reached (what is shared counts as often as it is met; a slice's spare places count too). A statement '..UptoSaid' is the law's where the arguments, and the package variables that the reading takes, are together of bulk at most 1048576: NARROWER than '..Said'. Prove '..Said' where nothing that the law and all that it calls make is longer than what came in: it says more and counts as full. Else prove '..UptoSaid'. A law counts once. -/
mutual
def uptoBulk {H : Type} : DataW H → Nat
  | .lit (.string bytes) => bytes.length + 1
  | .lit _ => 1
  | .nil => 1
  | .ptr d => uptoBulk d + 1
  | .slice elems spare => uptoBulkAll elems + uptoBulkAll spare + 1
  | .agg parts => uptoBulkAll parts + 1
  | .iface _ d => uptoBulk d + 1
  | .map entries => uptoBulkEntries entries + 1
  | .held _ => 1
def uptoBulkAll {H : Type} : List (DataW H) → Nat
  | [] => 0
  | d :: r => uptoBulk d + uptoBulkAll r
def uptoBulkEntries {H : Type} : List (Lit × DataW H) → Nat
  | [] => 0
  | x :: r => uptoBulkEntry x + uptoBulkEntries r
def uptoBulkEntry {H : Type} : Lit × DataW H → Nat
  | (.string bytes, d) => bytes.length + uptoBulk d + 1
  | (_, d) => uptoBulk d + 1
 end
def uptoSmall : (H : Type) → List (DataW H) → Bool := fun _ ds => decide (uptoBulkAll ds ≤ 1048576)
def OpenSpec.upto (s : _root_.Go.ChangeSpec) : _root_.Go.OpenSpec := { _root_.Go.OpenSpec.ofChange s with cond := some uptoSmall }

/-- 'tallaw.LineSays', WHERE WHAT IT READS IS OF BULK AT MOST 1048576: true; the input reads as it did. -/
def lineSaysUptoRow : OpenClaim := { program := "ytcelkgbpgpgpjab", sum := "437806e994a06382383cf89f45aff3f82afa2dcf0d0fe42b28023a30b6a2a282", func := "tallage/tallaw.LineSays", spec := "lineSays", unfollowed := true, recurses := true, apart := false, narrowed := true }
def LineSaysUptoSaid : Prop := lineSaysUptoRow.holds Try.pinned (OpenSpec.upto lineSaysSpec)

/-- 'talkeep.LineSum', WHERE WHAT IT READS IS OF BULK AT MOST 1048576: true; the input reads as it did. -/
def lineSumUptoRow : OpenClaim := { program := "ytcelkgbpgpgpjab", sum := "437806e994a06382383cf89f45aff3f82afa2dcf0d0fe42b28023a30b6a2a282", func := "tallage/talkeep.LineSum", spec := "lineSum", unfollowed := true, recurses := true, apart := false, narrowed := true }
def LineSumUptoSaid : Prop := lineSumUptoRow.holds Try.pinned (OpenSpec.upto lineSumSpec)

/-- 'talkeep.LineFaster', WHERE WHAT IT READS IS OF BULK AT MOST 1048576: true; the input reads as it did. -/
def lineFasterUptoRow : OpenClaim := { program := "ytcelkgbpgpgpjab", sum := "437806e994a06382383cf89f45aff3f82afa2dcf0d0fe42b28023a30b6a2a282", func := "tallage/talkeep.LineFaster", spec := "lineFaster", unfollowed := true, recurses := true, apart := false, narrowed := true }
def LineFasterUptoSaid : Prop := lineFasterUptoRow.holds Try.pinned (OpenSpec.upto lineFasterSpec)

/-- 'talkeep.LineMore', WHERE WHAT IT READS IS OF BULK AT MOST 1048576: true; the input reads as it did. -/
def lineMoreUptoRow : OpenClaim := { program := "ytcelkgbpgpgpjab", sum := "437806e994a06382383cf89f45aff3f82afa2dcf0d0fe42b28023a30b6a2a282", func := "tallage/talkeep.LineMore", spec := "lineMore", unfollowed := true, recurses := true, apart := false, narrowed := true }
def LineMoreUptoSaid : Prop := lineMoreUptoRow.holds Try.pinned (OpenSpec.upto lineMoreSpec)

end Rows
end Go.Proofs.Ytcelkgbpgpgpjab
