/-
  No cell of these rows narrows 'for every input' (looked for: loops, veiled, ifaces, maps, wideKeys, modest, calm, conditions, laid).
  DERIVED. THE GIVEN ROWS OF THIS SEAT. 12 by the template 'for every input the law returns true; each argument reads behind the call as it read before'; 0 by the template 'total and deterministic' (their statements: YtdgiljndoeldcaaTotals.lean).
  GIVEN WITH THE SEED: the statements are not yours to turn. If you find one false, say at which input.
  Laid BY PROGRAM, IN A SANDBOX (cutbox-rows.mjs): the forced cells as the released guide's own fill.sh prints them over the translation 0582873629376c59… (all of the seat's roots in one cut). By AI agents, Wed Nov 11 2026. No macro, syntax, notation, axiom, sorry.
-/
import Derived.Test.YtdgiljndoeldcaaChecked
import GoSem.Claim
import GoSem.ClaimJoined
import GoSem.ClaimMapViews
import Derived.JoinedTies
import Derived.KernelRfl
namespace Go.Proofs.Ytdgiljndoeldcaa
/- THE CELL 'sum', in the pinned program and in every row, IS THE sha256 OF THE DUMP (.gsa) THAT YtdgiljndoeldcaaProg.lean LOADS. Nothing in Lean hashes anything: it is a label: what it is worth is what the hold of that sum in a sandbox is worth. -/
noncomputable def Try.pinned : Pinned := { name := "ytdgiljndoeldcaa", sum := "0582873629376c596fb1a07b6a4197454ca92a8fa7f7741101013aaa16c40cb9", checked := Try.checked }
namespace Rows
def none {H : Type} : Left H := { results := [], args := [] }

/-- 'tallaw.AgeSays': WHATEVER THE INPUT: true; the input reads as it did. -/
def ageSaysSpec : ChangeSpec := { name := "ageSays", fn := fun _ => fun
  | [d1, d2, d3, d4] => { results := [.lit (.bool true)], args := [d1, d2, d3, d4] }
  | _ => none }
def ageSaysRow : OpenClaim := { program := "ytdgiljndoeldcaa", sum := "0582873629376c596fb1a07b6a4197454ca92a8fa7f7741101013aaa16c40cb9", func := "tallage/tallaw.AgeSays", spec := "ageSays", inPlace := ["slices.overlaps[int]"], unfollowed := true, recurses := true, apart := false }
def AgeSaysSaid : Prop := ageSaysRow.holds Try.pinned (OpenSpec.ofChange ageSaysSpec)

/-- ITS FALSE NEIGHBOUR: 'it returns false'. Refute it at one input. -/
def ageSaysWrong : ChangeSpec := { name := "ageSays", fn := fun _ => fun
  | [d1, d2, d3, d4] => { results := [.lit (.bool false)], args := [d1, d2, d3, d4] }
  | _ => none }
def AgeSaysWrongFalsely : Prop := ageSaysRow.holds Try.pinned (OpenSpec.ofChange ageSaysWrong)

/-- 'tallaw.TieSays': WHATEVER THE INPUT: true; the input reads as it did. -/
def tieSaysSpec : ChangeSpec := { name := "tieSays", fn := fun _ => fun
  | [d1, d2, d3] => { results := [.lit (.bool true)], args := [d1, d2, d3] }
  | _ => none }
def tieSaysRow : OpenClaim := { program := "ytdgiljndoeldcaa", sum := "0582873629376c596fb1a07b6a4197454ca92a8fa7f7741101013aaa16c40cb9", func := "tallage/tallaw.TieSays", spec := "tieSays", inPlace := ["slices.overlaps[int]"], unfollowed := true, recurses := true, apart := false }
def TieSaysSaid : Prop := tieSaysRow.holds Try.pinned (OpenSpec.ofChange tieSaysSpec)

/-- ITS FALSE NEIGHBOUR: 'it returns false'. Refute it at one input. -/
def tieSaysWrong : ChangeSpec := { name := "tieSays", fn := fun _ => fun
  | [d1, d2, d3] => { results := [.lit (.bool false)], args := [d1, d2, d3] }
  | _ => none }
def TieSaysWrongFalsely : Prop := tieSaysRow.holds Try.pinned (OpenSpec.ofChange tieSaysWrong)

/-- 'talkeep.AgePaid': WHATEVER THE INPUT: true; the input reads as it did. -/
def agePaidSpec : ChangeSpec := { name := "agePaid", fn := fun _ => fun
  | [d1, d2] => { results := [.lit (.bool true)], args := [d1, d2] }
  | _ => none }
def agePaidRow : OpenClaim := { program := "ytdgiljndoeldcaa", sum := "0582873629376c596fb1a07b6a4197454ca92a8fa7f7741101013aaa16c40cb9", func := "tallage/talkeep.AgePaid", spec := "agePaid", unfollowed := true, recurses := true, apart := false }
def AgePaidSaid : Prop := agePaidRow.holds Try.pinned (OpenSpec.ofChange agePaidSpec)

/-- ITS FALSE NEIGHBOUR: 'it returns false'. Refute it at one input. -/
def agePaidWrong : ChangeSpec := { name := "agePaid", fn := fun _ => fun
  | [d1, d2] => { results := [.lit (.bool false)], args := [d1, d2] }
  | _ => none }
def AgePaidWrongFalsely : Prop := agePaidRow.holds Try.pinned (OpenSpec.ofChange agePaidWrong)

/-- 'talkeep.AgeTwice': WHATEVER THE INPUT: true; the input reads as it did. -/
def ageTwiceSpec : ChangeSpec := { name := "ageTwice", fn := fun _ => fun
  | [d1, d2, d3] => { results := [.lit (.bool true)], args := [d1, d2, d3] }
  | _ => none }
def ageTwiceRow : OpenClaim := { program := "ytdgiljndoeldcaa", sum := "0582873629376c596fb1a07b6a4197454ca92a8fa7f7741101013aaa16c40cb9", func := "tallage/talkeep.AgeTwice", spec := "ageTwice", unfollowed := true, recurses := true, apart := false }
def AgeTwiceSaid : Prop := ageTwiceRow.holds Try.pinned (OpenSpec.ofChange ageTwiceSpec)

/-- ITS FALSE NEIGHBOUR: 'it returns false'. Refute it at one input. -/
def ageTwiceWrong : ChangeSpec := { name := "ageTwice", fn := fun _ => fun
  | [d1, d2, d3] => { results := [.lit (.bool false)], args := [d1, d2, d3] }
  | _ => none }
def AgeTwiceWrongFalsely : Prop := ageTwiceRow.holds Try.pinned (OpenSpec.ofChange ageTwiceWrong)

/-- 'talkeep.AgeSum': WHATEVER THE INPUT: true; the input reads as it did. -/
def ageSumSpec : ChangeSpec := { name := "ageSum", fn := fun _ => fun
  | [d1, d2, d3, d4] => { results := [.lit (.bool true)], args := [d1, d2, d3, d4] }
  | _ => none }
def ageSumRow : OpenClaim := { program := "ytdgiljndoeldcaa", sum := "0582873629376c596fb1a07b6a4197454ca92a8fa7f7741101013aaa16c40cb9", func := "tallage/talkeep.AgeSum", spec := "ageSum", apart := false }
def AgeSumSaid : Prop := ageSumRow.holds Try.pinned (OpenSpec.ofChange ageSumSpec)

/-- ITS FALSE NEIGHBOUR: 'it returns false'. Refute it at one input. -/
def ageSumWrong : ChangeSpec := { name := "ageSum", fn := fun _ => fun
  | [d1, d2, d3, d4] => { results := [.lit (.bool false)], args := [d1, d2, d3, d4] }
  | _ => none }
def AgeSumWrongFalsely : Prop := ageSumRow.holds Try.pinned (OpenSpec.ofChange ageSumWrong)

/-- 'talkeep.TieRight': WHATEVER THE INPUT: true; the input reads as it did. -/
def tieRightSpec : ChangeSpec := { name := "tieRight", fn := fun _ => fun
  | [d1, d2, d3] => { results := [.lit (.bool true)], args := [d1, d2, d3] }
  | _ => none }
def tieRightRow : OpenClaim := { program := "ytdgiljndoeldcaa", sum := "0582873629376c596fb1a07b6a4197454ca92a8fa7f7741101013aaa16c40cb9", func := "tallage/talkeep.TieRight", spec := "tieRight", unfollowed := true, recurses := true, apart := false }
def TieRightSaid : Prop := tieRightRow.holds Try.pinned (OpenSpec.ofChange tieRightSpec)

/-- ITS FALSE NEIGHBOUR: 'it returns false'. Refute it at one input. -/
def tieRightWrong : ChangeSpec := { name := "tieRight", fn := fun _ => fun
  | [d1, d2, d3] => { results := [.lit (.bool false)], args := [d1, d2, d3] }
  | _ => none }
def TieRightWrongFalsely : Prop := tieRightRow.holds Try.pinned (OpenSpec.ofChange tieRightWrong)

/-- 'talkeep.TieMost': WHATEVER THE INPUT: true; the input reads as it did. -/
def tieMostSpec : ChangeSpec := { name := "tieMost", fn := fun _ => fun
  | [d1, d2, d3, d4] => { results := [.lit (.bool true)], args := [d1, d2, d3, d4] }
  | _ => none }
def tieMostRow : OpenClaim := { program := "ytdgiljndoeldcaa", sum := "0582873629376c596fb1a07b6a4197454ca92a8fa7f7741101013aaa16c40cb9", func := "tallage/talkeep.TieMost", spec := "tieMost", unfollowed := true, recurses := true, apart := false }
def TieMostSaid : Prop := tieMostRow.holds Try.pinned (OpenSpec.ofChange tieMostSpec)

/-- ITS FALSE NEIGHBOUR: 'it returns false'. Refute it at one input. -/
def tieMostWrong : ChangeSpec := { name := "tieMost", fn := fun _ => fun
  | [d1, d2, d3, d4] => { results := [.lit (.bool false)], args := [d1, d2, d3, d4] }
  | _ => none }
def TieMostWrongFalsely : Prop := tieMostRow.holds Try.pinned (OpenSpec.ofChange tieMostWrong)

/-- 'talkeep.TieWider': WHATEVER THE INPUT: true; the input reads as it did. -/
def tieWiderSpec : ChangeSpec := { name := "tieWider", fn := fun _ => fun
  | [d1, d2, d3, d4, d5] => { results := [.lit (.bool true)], args := [d1, d2, d3, d4, d5] }
  | _ => none }
def tieWiderRow : OpenClaim := { program := "ytdgiljndoeldcaa", sum := "0582873629376c596fb1a07b6a4197454ca92a8fa7f7741101013aaa16c40cb9", func := "tallage/talkeep.TieWider", spec := "tieWider", unfollowed := true, recurses := true, apart := false }
def TieWiderSaid : Prop := tieWiderRow.holds Try.pinned (OpenSpec.ofChange tieWiderSpec)

/-- ITS FALSE NEIGHBOUR: 'it returns false'. Refute it at one input. -/
def tieWiderWrong : ChangeSpec := { name := "tieWider", fn := fun _ => fun
  | [d1, d2, d3, d4, d5] => { results := [.lit (.bool false)], args := [d1, d2, d3, d4, d5] }
  | _ => none }
def TieWiderWrongFalsely : Prop := tieWiderRow.holds Try.pinned (OpenSpec.ofChange tieWiderWrong)

/-- 'talkeep.AgeAny': WHATEVER THE INPUT: true; the input reads as it did. -/
def ageAnySpec : ChangeSpec := { name := "ageAny", fn := fun _ => fun
  | [d1, d2, d3, d4] => { results := [.lit (.bool true)], args := [d1, d2, d3, d4] }
  | _ => none }
def ageAnyRow : OpenClaim := { program := "ytdgiljndoeldcaa", sum := "0582873629376c596fb1a07b6a4197454ca92a8fa7f7741101013aaa16c40cb9", func := "tallage/talkeep.AgeAny", spec := "ageAny", unfollowed := true, recurses := true, apart := false }
def AgeAnySaid : Prop := ageAnyRow.holds Try.pinned (OpenSpec.ofChange ageAnySpec)

/-- ITS FALSE NEIGHBOUR: 'it returns false'. Refute it at one input. -/
def ageAnyWrong : ChangeSpec := { name := "ageAny", fn := fun _ => fun
  | [d1, d2, d3, d4] => { results := [.lit (.bool false)], args := [d1, d2, d3, d4] }
  | _ => none }
def AgeAnyWrongFalsely : Prop := ageAnyRow.holds Try.pinned (OpenSpec.ofChange ageAnyWrong)

/-- 'talkeep.AgeNone': WHATEVER THE INPUT: true; the input reads as it did. -/
def ageNoneSpec : ChangeSpec := { name := "ageNone", fn := fun _ => fun
  | [d1, d2] => { results := [.lit (.bool true)], args := [d1, d2] }
  | _ => none }
def ageNoneRow : OpenClaim := { program := "ytdgiljndoeldcaa", sum := "0582873629376c596fb1a07b6a4197454ca92a8fa7f7741101013aaa16c40cb9", func := "tallage/talkeep.AgeNone", spec := "ageNone", unfollowed := true, recurses := true, apart := false }
def AgeNoneSaid : Prop := ageNoneRow.holds Try.pinned (OpenSpec.ofChange ageNoneSpec)

/-- ITS FALSE NEIGHBOUR: 'it returns false'. Refute it at one input. -/
def ageNoneWrong : ChangeSpec := { name := "ageNone", fn := fun _ => fun
  | [d1, d2] => { results := [.lit (.bool false)], args := [d1, d2] }
  | _ => none }
def AgeNoneWrongFalsely : Prop := ageNoneRow.holds Try.pinned (OpenSpec.ofChange ageNoneWrong)

/-- 'talkeep.TieSelf': WHATEVER THE INPUT: true; the input reads as it did. -/
def tieSelfSpec : ChangeSpec := { name := "tieSelf", fn := fun _ => fun
  | [d1, d2] => { results := [.lit (.bool true)], args := [d1, d2] }
  | _ => none }
def tieSelfRow : OpenClaim := { program := "ytdgiljndoeldcaa", sum := "0582873629376c596fb1a07b6a4197454ca92a8fa7f7741101013aaa16c40cb9", func := "tallage/talkeep.TieSelf", spec := "tieSelf", unfollowed := true, recurses := true, apart := false }
def TieSelfSaid : Prop := tieSelfRow.holds Try.pinned (OpenSpec.ofChange tieSelfSpec)

/-- ITS FALSE NEIGHBOUR: 'it returns false'. Refute it at one input. -/
def tieSelfWrong : ChangeSpec := { name := "tieSelf", fn := fun _ => fun
  | [d1, d2] => { results := [.lit (.bool false)], args := [d1, d2] }
  | _ => none }
def TieSelfWrongFalsely : Prop := tieSelfRow.holds Try.pinned (OpenSpec.ofChange tieSelfWrong)

/-- 'taltop.TopOwed': WHATEVER THE INPUT: true; the input reads as it did. -/
def topOwedSpec : ChangeSpec := { name := "topOwed", fn := fun _ => fun
  | [d1, d2] => { results := [.lit (.bool true)], args := [d1, d2] }
  | _ => none }
def topOwedRow : OpenClaim := { program := "ytdgiljndoeldcaa", sum := "0582873629376c596fb1a07b6a4197454ca92a8fa7f7741101013aaa16c40cb9", func := "tallage/taltop.TopOwed", spec := "topOwed", inPlace := ["slices.overlaps[tallage/api.Entry]"], unfollowed := true, recurses := true, apart := false }
def TopOwedSaid : Prop := topOwedRow.holds Try.pinned (OpenSpec.ofChange topOwedSpec)

/-- ITS FALSE NEIGHBOUR: 'it returns false'. Refute it at one input. -/
def topOwedWrong : ChangeSpec := { name := "topOwed", fn := fun _ => fun
  | [d1, d2] => { results := [.lit (.bool false)], args := [d1, d2] }
  | _ => none }
def TopOwedWrongFalsely : Prop := topOwedRow.holds Try.pinned (OpenSpec.ofChange topOwedWrong)

/- THE SECOND FORM. 'bulk': how many values and letters a reading holds, each counted each time it is reached (what is shared counts as often as it is met; a slice's spare places count too). A statement '..UptoSaid' is the law's where the arguments, and the package variables that the reading takes, are together of bulk at most 1048576: NARROWER than '..Said'. Prove '..Said' where nothing that the law and all that it calls make is longer than what came in: it says more and counts as full. Else prove '..UptoSaid'. A law counts once. -/
mutual
def uptoBulk {H : Type} : DataW H → Nat
  | .lit (.string bytes) => bytes.length + 1
  | .lit _ => 1
  | .nil => 1
  | .ptr d => uptoBulk d + 1
  | .slice elems spare => uptoBulkAll elems + uptoBulkAll spare + 1
  | .agg parts => uptoBulkAll parts + 1
  | .iface _ d => uptoBulk d + 1
  | .map entries => uptoBulkEntries entries + 1
  | .held _ => 1
def uptoBulkAll {H : Type} : List (DataW H) → Nat
  | [] => 0
  | d :: r => uptoBulk d + uptoBulkAll r
def uptoBulkEntries {H : Type} : List (Lit × DataW H) → Nat
  | [] => 0
  | x :: r => uptoBulkEntry x + uptoBulkEntries r
def uptoBulkEntry {H : Type} : Lit × DataW H → Nat
  | (.string bytes, d) => bytes.length + uptoBulk d + 1
  | (_, d) => uptoBulk d + 1
 end
def uptoSmall : (H : Type) → List (DataW H) → Bool := fun _ ds => decide (uptoBulkAll ds ≤ 1048576)
def OpenSpec.upto (s : _root_.Go.ChangeSpec) : _root_.Go.OpenSpec := { _root_.Go.OpenSpec.ofChange s with cond := some uptoSmall }

/-- 'tallaw.AgeSays', WHERE WHAT IT READS IS OF BULK AT MOST 1048576: true; the input reads as it did. -/
def ageSaysUptoRow : OpenClaim := { program := "ytdgiljndoeldcaa", sum := "0582873629376c596fb1a07b6a4197454ca92a8fa7f7741101013aaa16c40cb9", func := "tallage/tallaw.AgeSays", spec := "ageSays", inPlace := ["slices.overlaps[int]"], unfollowed := true, recurses := true, apart := false, narrowed := true }
def AgeSaysUptoSaid : Prop := ageSaysUptoRow.holds Try.pinned (OpenSpec.upto ageSaysSpec)

/-- 'tallaw.TieSays', WHERE WHAT IT READS IS OF BULK AT MOST 1048576: true; the input reads as it did. -/
def tieSaysUptoRow : OpenClaim := { program := "ytdgiljndoeldcaa", sum := "0582873629376c596fb1a07b6a4197454ca92a8fa7f7741101013aaa16c40cb9", func := "tallage/tallaw.TieSays", spec := "tieSays", inPlace := ["slices.overlaps[int]"], unfollowed := true, recurses := true, apart := false, narrowed := true }
def TieSaysUptoSaid : Prop := tieSaysUptoRow.holds Try.pinned (OpenSpec.upto tieSaysSpec)

/-- 'talkeep.AgePaid', WHERE WHAT IT READS IS OF BULK AT MOST 1048576: true; the input reads as it did. -/
def agePaidUptoRow : OpenClaim := { program := "ytdgiljndoeldcaa", sum := "0582873629376c596fb1a07b6a4197454ca92a8fa7f7741101013aaa16c40cb9", func := "tallage/talkeep.AgePaid", spec := "agePaid", unfollowed := true, recurses := true, apart := false, narrowed := true }
def AgePaidUptoSaid : Prop := agePaidUptoRow.holds Try.pinned (OpenSpec.upto agePaidSpec)

/-- 'talkeep.AgeTwice', WHERE WHAT IT READS IS OF BULK AT MOST 1048576: true; the input reads as it did. -/
def ageTwiceUptoRow : OpenClaim := { program := "ytdgiljndoeldcaa", sum := "0582873629376c596fb1a07b6a4197454ca92a8fa7f7741101013aaa16c40cb9", func := "tallage/talkeep.AgeTwice", spec := "ageTwice", unfollowed := true, recurses := true, apart := false, narrowed := true }
def AgeTwiceUptoSaid : Prop := ageTwiceUptoRow.holds Try.pinned (OpenSpec.upto ageTwiceSpec)

/-- 'talkeep.AgeSum', WHERE WHAT IT READS IS OF BULK AT MOST 1048576: true; the input reads as it did. -/
def ageSumUptoRow : OpenClaim := { program := "ytdgiljndoeldcaa", sum := "0582873629376c596fb1a07b6a4197454ca92a8fa7f7741101013aaa16c40cb9", func := "tallage/talkeep.AgeSum", spec := "ageSum", apart := false, narrowed := true }
def AgeSumUptoSaid : Prop := ageSumUptoRow.holds Try.pinned (OpenSpec.upto ageSumSpec)

/-- 'talkeep.TieRight', WHERE WHAT IT READS IS OF BULK AT MOST 1048576: true; the input reads as it did. -/
def tieRightUptoRow : OpenClaim := { program := "ytdgiljndoeldcaa", sum := "0582873629376c596fb1a07b6a4197454ca92a8fa7f7741101013aaa16c40cb9", func := "tallage/talkeep.TieRight", spec := "tieRight", unfollowed := true, recurses := true, apart := false, narrowed := true }
def TieRightUptoSaid : Prop := tieRightUptoRow.holds Try.pinned (OpenSpec.upto tieRightSpec)

/-- 'talkeep.TieMost', WHERE WHAT IT READS IS OF BULK AT MOST 1048576: true; the input reads as it did. -/
def tieMostUptoRow : OpenClaim := { program := "ytdgiljndoeldcaa", sum := "0582873629376c596fb1a07b6a4197454ca92a8fa7f7741101013aaa16c40cb9", func := "tallage/talkeep.TieMost", spec := "tieMost", unfollowed := true, recurses := true, apart := false, narrowed := true }
def TieMostUptoSaid : Prop := tieMostUptoRow.holds Try.pinned (OpenSpec.upto tieMostSpec)

/-- 'talkeep.TieWider', WHERE WHAT IT READS IS OF BULK AT MOST 1048576: true; the input reads as it did. -/
def tieWiderUptoRow : OpenClaim := { program := "ytdgiljndoeldcaa", sum := "0582873629376c596fb1a07b6a4197454ca92a8fa7f7741101013aaa16c40cb9", func := "tallage/talkeep.TieWider", spec := "tieWider", unfollowed := true, recurses := true, apart := false, narrowed := true }
def TieWiderUptoSaid : Prop := tieWiderUptoRow.holds Try.pinned (OpenSpec.upto tieWiderSpec)

/-- 'talkeep.AgeAny', WHERE WHAT IT READS IS OF BULK AT MOST 1048576: true; the input reads as it did. -/
def ageAnyUptoRow : OpenClaim := { program := "ytdgiljndoeldcaa", sum := "0582873629376c596fb1a07b6a4197454ca92a8fa7f7741101013aaa16c40cb9", func := "tallage/talkeep.AgeAny", spec := "ageAny", unfollowed := true, recurses := true, apart := false, narrowed := true }
def AgeAnyUptoSaid : Prop := ageAnyUptoRow.holds Try.pinned (OpenSpec.upto ageAnySpec)

/-- 'talkeep.AgeNone', WHERE WHAT IT READS IS OF BULK AT MOST 1048576: true; the input reads as it did. -/
def ageNoneUptoRow : OpenClaim := { program := "ytdgiljndoeldcaa", sum := "0582873629376c596fb1a07b6a4197454ca92a8fa7f7741101013aaa16c40cb9", func := "tallage/talkeep.AgeNone", spec := "ageNone", unfollowed := true, recurses := true, apart := false, narrowed := true }
def AgeNoneUptoSaid : Prop := ageNoneUptoRow.holds Try.pinned (OpenSpec.upto ageNoneSpec)

/-- 'talkeep.TieSelf', WHERE WHAT IT READS IS OF BULK AT MOST 1048576: true; the input reads as it did. -/
def tieSelfUptoRow : OpenClaim := { program := "ytdgiljndoeldcaa", sum := "0582873629376c596fb1a07b6a4197454ca92a8fa7f7741101013aaa16c40cb9", func := "tallage/talkeep.TieSelf", spec := "tieSelf", unfollowed := true, recurses := true, apart := false, narrowed := true }
def TieSelfUptoSaid : Prop := tieSelfUptoRow.holds Try.pinned (OpenSpec.upto tieSelfSpec)

/-- 'taltop.TopOwed', WHERE WHAT IT READS IS OF BULK AT MOST 1048576: true; the input reads as it did. -/
def topOwedUptoRow : OpenClaim := { program := "ytdgiljndoeldcaa", sum := "0582873629376c596fb1a07b6a4197454ca92a8fa7f7741101013aaa16c40cb9", func := "tallage/taltop.TopOwed", spec := "topOwed", inPlace := ["slices.overlaps[tallage/api.Entry]"], unfollowed := true, recurses := true, apart := false, narrowed := true }
def TopOwedUptoSaid : Prop := topOwedUptoRow.holds Try.pinned (OpenSpec.upto topOwedSpec)

end Rows
end Go.Proofs.Ytdgiljndoeldcaa
