/-
  No cell of these rows narrows 'for every input' (looked for: loops, veiled, ifaces, maps, wideKeys, modest, calm, conditions, laid).
  DERIVED. THE GIVEN ROWS OF THIS SEAT. 6 by the template 'for every input the law returns true; each argument reads behind the call as it read before'; 0 by the template 'total and deterministic' (their statements: YtcfcbglnmhoknaaTotals.lean).
  GIVEN WITH THE SEED: the statements are not yours to turn. If you find one false, say at which input.
  Laid BY PROGRAM, IN A SANDBOX (cutbox-rows.mjs): the forced cells as the released guide's own fill.sh prints them over the translation 381c269d5aa18f25… (all of the seat's roots in one cut). By AI agents, Wed Nov 11 2026. No macro, syntax, notation, axiom, sorry.
-/
import Derived.Test.YtcfcbglnmhoknaaChecked
import GoSem.Claim
import GoSem.ClaimJoined
import GoSem.ClaimMapViews
import Derived.JoinedTies
import Derived.KernelRfl
namespace Go.Proofs.Ytcfcbglnmhoknaa
/- THE CELL 'sum', in the pinned program and in every row, IS THE sha256 OF THE DUMP (.gsa) THAT YtcfcbglnmhoknaaProg.lean LOADS. Nothing in Lean hashes anything: it is a label: what it is worth is what the hold of that sum in a sandbox is worth. -/
noncomputable def Try.pinned : Pinned := { name := "ytcfcbglnmhoknaa", sum := "381c269d5aa18f25bb34cf9c6b487305415f0fe0b0ad7b3174d351399870a585", checked := Try.checked }
namespace Rows
def none {H : Type} : Left H := { results := [], args := [] }

/-- 'tallaw.NoteSays': WHATEVER THE INPUT: true; the input reads as it did. -/
def noteSaysSpec : ChangeSpec := { name := "noteSays", fn := fun _ => fun
  | [d1, d2, d3, d4] => { results := [.lit (.bool true)], args := [d1, d2, d3, d4] }
  | _ => none }
def noteSaysRow : OpenClaim := { program := "ytcfcbglnmhoknaa", sum := "381c269d5aa18f25bb34cf9c6b487305415f0fe0b0ad7b3174d351399870a585", func := "tallage/tallaw.NoteSays", spec := "noteSays", unfollowed := true, recurses := true, apart := false }
def NoteSaysSaid : Prop := noteSaysRow.holds Try.pinned (OpenSpec.ofChange noteSaysSpec)

/-- ITS FALSE NEIGHBOUR: 'it returns false'. Refute it at one input. -/
def noteSaysWrong : ChangeSpec := { name := "noteSays", fn := fun _ => fun
  | [d1, d2, d3, d4] => { results := [.lit (.bool false)], args := [d1, d2, d3, d4] }
  | _ => none }
def NoteSaysWrongFalsely : Prop := noteSaysRow.holds Try.pinned (OpenSpec.ofChange noteSaysWrong)

/-- 'talkeep.NoteSum': WHATEVER THE INPUT: true; the input reads as it did. -/
def noteSumSpec : ChangeSpec := { name := "noteSum", fn := fun _ => fun
  | [d1, d2, d3] => { results := [.lit (.bool true)], args := [d1, d2, d3] }
  | _ => none }
def noteSumRow : OpenClaim := { program := "ytcfcbglnmhoknaa", sum := "381c269d5aa18f25bb34cf9c6b487305415f0fe0b0ad7b3174d351399870a585", func := "tallage/talkeep.NoteSum", spec := "noteSum", recurses := true, apart := false }
def NoteSumSaid : Prop := noteSumRow.holds Try.pinned (OpenSpec.ofChange noteSumSpec)

/-- ITS FALSE NEIGHBOUR: 'it returns false'. Refute it at one input. -/
def noteSumWrong : ChangeSpec := { name := "noteSum", fn := fun _ => fun
  | [d1, d2, d3] => { results := [.lit (.bool false)], args := [d1, d2, d3] }
  | _ => none }
def NoteSumWrongFalsely : Prop := noteSumRow.holds Try.pinned (OpenSpec.ofChange noteSumWrong)

/-- 'talkeep.NoteLeast': WHATEVER THE INPUT: true; the input reads as it did. -/
def noteLeastSpec : ChangeSpec := { name := "noteLeast", fn := fun _ => fun
  | [d1, d2, d3] => { results := [.lit (.bool true)], args := [d1, d2, d3] }
  | _ => none }
def noteLeastRow : OpenClaim := { program := "ytcfcbglnmhoknaa", sum := "381c269d5aa18f25bb34cf9c6b487305415f0fe0b0ad7b3174d351399870a585", func := "tallage/talkeep.NoteLeast", spec := "noteLeast", unfollowed := true, recurses := true, apart := false }
def NoteLeastSaid : Prop := noteLeastRow.holds Try.pinned (OpenSpec.ofChange noteLeastSpec)

/-- ITS FALSE NEIGHBOUR: 'it returns false'. Refute it at one input. -/
def noteLeastWrong : ChangeSpec := { name := "noteLeast", fn := fun _ => fun
  | [d1, d2, d3] => { results := [.lit (.bool false)], args := [d1, d2, d3] }
  | _ => none }
def NoteLeastWrongFalsely : Prop := noteLeastRow.holds Try.pinned (OpenSpec.ofChange noteLeastWrong)

/-- 'talkeep.NoteMore': WHATEVER THE INPUT: true; the input reads as it did. -/
def noteMoreSpec : ChangeSpec := { name := "noteMore", fn := fun _ => fun
  | [d1, d2, d3, d4, d5] => { results := [.lit (.bool true)], args := [d1, d2, d3, d4, d5] }
  | _ => none }
def noteMoreRow : OpenClaim := { program := "ytcfcbglnmhoknaa", sum := "381c269d5aa18f25bb34cf9c6b487305415f0fe0b0ad7b3174d351399870a585", func := "tallage/talkeep.NoteMore", spec := "noteMore", recurses := true, apart := false }
def NoteMoreSaid : Prop := noteMoreRow.holds Try.pinned (OpenSpec.ofChange noteMoreSpec)

/-- ITS FALSE NEIGHBOUR: 'it returns false'. Refute it at one input. -/
def noteMoreWrong : ChangeSpec := { name := "noteMore", fn := fun _ => fun
  | [d1, d2, d3, d4, d5] => { results := [.lit (.bool false)], args := [d1, d2, d3, d4, d5] }
  | _ => none }
def NoteMoreWrongFalsely : Prop := noteMoreRow.holds Try.pinned (OpenSpec.ofChange noteMoreWrong)

/-- 'talkeep.NoteFree': WHATEVER THE INPUT: true; the input reads as it did. -/
def noteFreeSpec : ChangeSpec := { name := "noteFree", fn := fun _ => fun
  | [d1, d2, d3] => { results := [.lit (.bool true)], args := [d1, d2, d3] }
  | _ => none }
def noteFreeRow : OpenClaim := { program := "ytcfcbglnmhoknaa", sum := "381c269d5aa18f25bb34cf9c6b487305415f0fe0b0ad7b3174d351399870a585", func := "tallage/talkeep.NoteFree", spec := "noteFree", unfollowed := true, recurses := true, apart := false }
def NoteFreeSaid : Prop := noteFreeRow.holds Try.pinned (OpenSpec.ofChange noteFreeSpec)

/-- ITS FALSE NEIGHBOUR: 'it returns false'. Refute it at one input. -/
def noteFreeWrong : ChangeSpec := { name := "noteFree", fn := fun _ => fun
  | [d1, d2, d3] => { results := [.lit (.bool false)], args := [d1, d2, d3] }
  | _ => none }
def NoteFreeWrongFalsely : Prop := noteFreeRow.holds Try.pinned (OpenSpec.ofChange noteFreeWrong)

/-- 'talkeep.NoteGrows': WHATEVER THE INPUT: true; the input reads as it did. -/
def noteGrowsSpec : ChangeSpec := { name := "noteGrows", fn := fun _ => fun
  | [d1, d2, d3, d4, d5, d6] => { results := [.lit (.bool true)], args := [d1, d2, d3, d4, d5, d6] }
  | _ => none }
def noteGrowsRow : OpenClaim := { program := "ytcfcbglnmhoknaa", sum := "381c269d5aa18f25bb34cf9c6b487305415f0fe0b0ad7b3174d351399870a585", func := "tallage/talkeep.NoteGrows", spec := "noteGrows", unfollowed := true, recurses := true, apart := false }
def NoteGrowsSaid : Prop := noteGrowsRow.holds Try.pinned (OpenSpec.ofChange noteGrowsSpec)

/-- ITS FALSE NEIGHBOUR: 'it returns false'. Refute it at one input. -/
def noteGrowsWrong : ChangeSpec := { name := "noteGrows", fn := fun _ => fun
  | [d1, d2, d3, d4, d5, d6] => { results := [.lit (.bool false)], args := [d1, d2, d3, d4, d5, d6] }
  | _ => none }
def NoteGrowsWrongFalsely : Prop := noteGrowsRow.holds Try.pinned (OpenSpec.ofChange noteGrowsWrong)

/- THE SECOND FORM. 'bulk': how many values and letters a reading holds, each counted each time it is reached (what is shared counts as often as it is met; a slice's spare places count too). A statement '..UptoSaid' is the law's where the arguments, and the package variables that the reading takes, are together of bulk at most 1048576: NARROWER than '..Said'. Prove '..Said' where nothing that the law and all that it calls make is longer than what came in: it says more and counts as full. Else prove '..UptoSaid'. A law counts once. -/
mutual
def uptoBulk {H : Type} : DataW H → Nat
  | .lit (.string bytes) => bytes.length + 1
  | .lit _ => 1
  | .nil => 1
  | .ptr d => uptoBulk d + 1
  | .slice elems spare => uptoBulkAll elems + uptoBulkAll spare + 1
  | .agg parts => uptoBulkAll parts + 1
  | .iface _ d => uptoBulk d + 1
  | .map entries => uptoBulkEntries entries + 1
  | .held _ => 1
def uptoBulkAll {H : Type} : List (DataW H) → Nat
  | [] => 0
  | d :: r => uptoBulk d + uptoBulkAll r
def uptoBulkEntries {H : Type} : List (Lit × DataW H) → Nat
  | [] => 0
  | x :: r => uptoBulkEntry x + uptoBulkEntries r
def uptoBulkEntry {H : Type} : Lit × DataW H → Nat
  | (.string bytes, d) => bytes.length + uptoBulk d + 1
  | (_, d) => uptoBulk d + 1
 end
def uptoSmall : (H : Type) → List (DataW H) → Bool := fun _ ds => decide (uptoBulkAll ds ≤ 1048576)
def OpenSpec.upto (s : _root_.Go.ChangeSpec) : _root_.Go.OpenSpec := { _root_.Go.OpenSpec.ofChange s with cond := some uptoSmall }

/-- 'tallaw.NoteSays', WHERE WHAT IT READS IS OF BULK AT MOST 1048576: true; the input reads as it did. -/
def noteSaysUptoRow : OpenClaim := { program := "ytcfcbglnmhoknaa", sum := "381c269d5aa18f25bb34cf9c6b487305415f0fe0b0ad7b3174d351399870a585", func := "tallage/tallaw.NoteSays", spec := "noteSays", unfollowed := true, recurses := true, apart := false, narrowed := true }
def NoteSaysUptoSaid : Prop := noteSaysUptoRow.holds Try.pinned (OpenSpec.upto noteSaysSpec)

/-- 'talkeep.NoteSum', WHERE WHAT IT READS IS OF BULK AT MOST 1048576: true; the input reads as it did. -/
def noteSumUptoRow : OpenClaim := { program := "ytcfcbglnmhoknaa", sum := "381c269d5aa18f25bb34cf9c6b487305415f0fe0b0ad7b3174d351399870a585", func := "tallage/talkeep.NoteSum", spec := "noteSum", recurses := true, apart := false, narrowed := true }
def NoteSumUptoSaid : Prop := noteSumUptoRow.holds Try.pinned (OpenSpec.upto noteSumSpec)

/-- 'talkeep.NoteLeast', WHERE WHAT IT READS IS OF BULK AT MOST 1048576: true; the input reads as it did. -/
def noteLeastUptoRow : OpenClaim := { program := "ytcfcbglnmhoknaa", sum := "381c269d5aa18f25bb34cf9c6b487305415f0fe0b0ad7b3174d351399870a585", func := "tallage/talkeep.NoteLeast", spec := "noteLeast", unfollowed := true, recurses := true, apart := false, narrowed := true }
def NoteLeastUptoSaid : Prop := noteLeastUptoRow.holds Try.pinned (OpenSpec.upto noteLeastSpec)

/-- 'talkeep.NoteMore', WHERE WHAT IT READS IS OF BULK AT MOST 1048576: true; the input reads as it did. -/
def noteMoreUptoRow : OpenClaim := { program := "ytcfcbglnmhoknaa", sum := "381c269d5aa18f25bb34cf9c6b487305415f0fe0b0ad7b3174d351399870a585", func := "tallage/talkeep.NoteMore", spec := "noteMore", recurses := true, apart := false, narrowed := true }
def NoteMoreUptoSaid : Prop := noteMoreUptoRow.holds Try.pinned (OpenSpec.upto noteMoreSpec)

/-- 'talkeep.NoteFree', WHERE WHAT IT READS IS OF BULK AT MOST 1048576: true; the input reads as it did. -/
def noteFreeUptoRow : OpenClaim := { program := "ytcfcbglnmhoknaa", sum := "381c269d5aa18f25bb34cf9c6b487305415f0fe0b0ad7b3174d351399870a585", func := "tallage/talkeep.NoteFree", spec := "noteFree", unfollowed := true, recurses := true, apart := false, narrowed := true }
def NoteFreeUptoSaid : Prop := noteFreeUptoRow.holds Try.pinned (OpenSpec.upto noteFreeSpec)

/-- 'talkeep.NoteGrows', WHERE WHAT IT READS IS OF BULK AT MOST 1048576: true; the input reads as it did. -/
def noteGrowsUptoRow : OpenClaim := { program := "ytcfcbglnmhoknaa", sum := "381c269d5aa18f25bb34cf9c6b487305415f0fe0b0ad7b3174d351399870a585", func := "tallage/talkeep.NoteGrows", spec := "noteGrows", unfollowed := true, recurses := true, apart := false, narrowed := true }
def NoteGrowsUptoSaid : Prop := noteGrowsUptoRow.holds Try.pinned (OpenSpec.upto noteGrowsSpec)

end Rows
end Go.Proofs.Ytcfcbglnmhoknaa
