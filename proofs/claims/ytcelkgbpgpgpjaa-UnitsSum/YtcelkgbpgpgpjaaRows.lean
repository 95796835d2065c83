/-
  No cell of these rows narrows 'for every input' (looked for: loops, veiled, ifaces, maps, wideKeys, modest, calm, conditions, laid).
  DERIVED. THE GIVEN ROWS OF THIS SEAT. 6 by the template 'for every input the law returns true; each argument reads behind the call as it read before'; 0 by the template 'total and deterministic' (their statements: YtcelkgbpgpgpjaaTotals.lean).
  GIVEN WITH THE SEED: the statements are not yours to turn. If you find one false, say at which input.
  Laid BY PROGRAM, IN A SANDBOX (cutbox-rows.mjs): the forced cells as the released guide's own fill.sh prints them over the translation 589470371111c94c… (all of the seat's roots in one cut). By AI agents, Wed Nov 11 2026. No macro, syntax, notation, axiom, sorry.
-/
import Derived.Test.YtcelkgbpgpgpjaaChecked
import GoSem.Claim
import GoSem.ClaimJoined
import GoSem.ClaimMapViews
import Derived.JoinedTies
import Derived.KernelRfl
namespace Go.Proofs.Ytcelkgbpgpgpjaa
/- THE CELL 'sum', in the pinned program and in every row, IS THE sha256 OF THE DUMP (.gsa) THAT YtcelkgbpgpgpjaaProg.lean LOADS. Nothing in Lean hashes anything: it is a label: what it is worth is what the hold of that sum in a sandbox is worth. -/
noncomputable def Try.pinned : Pinned := { name := "ytcelkgbpgpgpjaa", sum := "589470371111c94c842594bcf5a27b54b39849dd28d3074f2b69804ddf015dc6", checked := Try.checked }
namespace Rows
def none {H : Type} : Left H := { results := [], args := [] }

/-- 'tallaw.FallSays': WHATEVER THE INPUT: true; the input reads as it did. -/
def fallSaysSpec : ChangeSpec := { name := "fallSays", fn := fun _ => fun
  | [d1, d2, d3, d4, d5, d6] => { results := [.lit (.bool true)], args := [d1, d2, d3, d4, d5, d6] }
  | _ => none }
def fallSaysRow : OpenClaim := { program := "ytcelkgbpgpgpjaa", sum := "589470371111c94c842594bcf5a27b54b39849dd28d3074f2b69804ddf015dc6", func := "tallage/tallaw.FallSays", spec := "fallSays", unfollowed := true, recurses := true, apart := false }
def FallSaysSaid : Prop := fallSaysRow.holds Try.pinned (OpenSpec.ofChange fallSaysSpec)

/-- ITS FALSE NEIGHBOUR: 'it returns false'. Refute it at one input. -/
def fallSaysWrong : ChangeSpec := { name := "fallSays", fn := fun _ => fun
  | [d1, d2, d3, d4, d5, d6] => { results := [.lit (.bool false)], args := [d1, d2, d3, d4, d5, d6] }
  | _ => none }
def FallSaysWrongFalsely : Prop := fallSaysRow.holds Try.pinned (OpenSpec.ofChange fallSaysWrong)

/-- 'talkeep.FallSum': WHATEVER THE INPUT: true; the input reads as it did. -/
def fallSumSpec : ChangeSpec := { name := "fallSum", fn := fun _ => fun
  | [d1, d2, d3, d4, d5] => { results := [.lit (.bool true)], args := [d1, d2, d3, d4, d5] }
  | _ => none }
def fallSumRow : OpenClaim := { program := "ytcelkgbpgpgpjaa", sum := "589470371111c94c842594bcf5a27b54b39849dd28d3074f2b69804ddf015dc6", func := "tallage/talkeep.FallSum", spec := "fallSum", unfollowed := true, recurses := true, apart := false }
def FallSumSaid : Prop := fallSumRow.holds Try.pinned (OpenSpec.ofChange fallSumSpec)

/-- ITS FALSE NEIGHBOUR: 'it returns false'. Refute it at one input. -/
def fallSumWrong : ChangeSpec := { name := "fallSum", fn := fun _ => fun
  | [d1, d2, d3, d4, d5] => { results := [.lit (.bool false)], args := [d1, d2, d3, d4, d5] }
  | _ => none }
def FallSumWrongFalsely : Prop := fallSumRow.holds Try.pinned (OpenSpec.ofChange fallSumWrong)

/-- 'talkeep.FallFaster': WHATEVER THE INPUT: true; the input reads as it did. -/
def fallFasterSpec : ChangeSpec := { name := "fallFaster", fn := fun _ => fun
  | [d1, d2, d3, d4, d5, d6, d7] => { results := [.lit (.bool true)], args := [d1, d2, d3, d4, d5, d6, d7] }
  | _ => none }
def fallFasterRow : OpenClaim := { program := "ytcelkgbpgpgpjaa", sum := "589470371111c94c842594bcf5a27b54b39849dd28d3074f2b69804ddf015dc6", func := "tallage/talkeep.FallFaster", spec := "fallFaster", unfollowed := true, recurses := true, apart := false }
def FallFasterSaid : Prop := fallFasterRow.holds Try.pinned (OpenSpec.ofChange fallFasterSpec)

/-- ITS FALSE NEIGHBOUR: 'it returns false'. Refute it at one input. -/
def fallFasterWrong : ChangeSpec := { name := "fallFaster", fn := fun _ => fun
  | [d1, d2, d3, d4, d5, d6, d7] => { results := [.lit (.bool false)], args := [d1, d2, d3, d4, d5, d6, d7] }
  | _ => none }
def FallFasterWrongFalsely : Prop := fallFasterRow.holds Try.pinned (OpenSpec.ofChange fallFasterWrong)

/-- 'talkeep.UnitsSum': WHATEVER THE INPUT: true; the input reads as it did. -/
def unitsSumSpec : ChangeSpec := { name := "unitsSum", fn := fun _ => fun
  | [d1, d2, d3, d4, d5, d6] => { results := [.lit (.bool true)], args := [d1, d2, d3, d4, d5, d6] }
  | _ => none }
def unitsSumRow : OpenClaim := { program := "ytcelkgbpgpgpjaa", sum := "589470371111c94c842594bcf5a27b54b39849dd28d3074f2b69804ddf015dc6", func := "tallage/talkeep.UnitsSum", spec := "unitsSum", inPlace := ["slices.overlaps[int]"], unfollowed := true, recurses := true, apart := false }
def UnitsSumSaid : Prop := unitsSumRow.holds Try.pinned (OpenSpec.ofChange unitsSumSpec)

/-- ITS FALSE NEIGHBOUR: 'it returns false'. Refute it at one input. -/
def unitsSumWrong : ChangeSpec := { name := "unitsSum", fn := fun _ => fun
  | [d1, d2, d3, d4, d5, d6] => { results := [.lit (.bool false)], args := [d1, d2, d3, d4, d5, d6] }
  | _ => none }
def UnitsSumWrongFalsely : Prop := unitsSumRow.holds Try.pinned (OpenSpec.ofChange unitsSumWrong)

/-- 'talkeep.LineOnce': WHATEVER THE INPUT: true; the input reads as it did. -/
def lineOnceSpec : ChangeSpec := { name := "lineOnce", fn := fun _ => fun
  | [d1, d2, d3, d4] => { results := [.lit (.bool true)], args := [d1, d2, d3, d4] }
  | _ => none }
def lineOnceRow : OpenClaim := { program := "ytcelkgbpgpgpjaa", sum := "589470371111c94c842594bcf5a27b54b39849dd28d3074f2b69804ddf015dc6", func := "tallage/talkeep.LineOnce", spec := "lineOnce", unfollowed := true, recurses := true, apart := false }
def LineOnceSaid : Prop := lineOnceRow.holds Try.pinned (OpenSpec.ofChange lineOnceSpec)

/-- ITS FALSE NEIGHBOUR: 'it returns false'. Refute it at one input. -/
def lineOnceWrong : ChangeSpec := { name := "lineOnce", fn := fun _ => fun
  | [d1, d2, d3, d4] => { results := [.lit (.bool false)], args := [d1, d2, d3, d4] }
  | _ => none }
def LineOnceWrongFalsely : Prop := lineOnceRow.holds Try.pinned (OpenSpec.ofChange lineOnceWrong)

/-- 'talkeep.FallFalls': WHATEVER THE INPUT: true; the input reads as it did. -/
def fallFallsSpec : ChangeSpec := { name := "fallFalls", fn := fun _ => fun
  | [d1, d2, d3, d4] => { results := [.lit (.bool true)], args := [d1, d2, d3, d4] }
  | _ => none }
def fallFallsRow : OpenClaim := { program := "ytcelkgbpgpgpjaa", sum := "589470371111c94c842594bcf5a27b54b39849dd28d3074f2b69804ddf015dc6", func := "tallage/talkeep.FallFalls", spec := "fallFalls", unfollowed := true, recurses := true, apart := false }
def FallFallsSaid : Prop := fallFallsRow.holds Try.pinned (OpenSpec.ofChange fallFallsSpec)

/-- ITS FALSE NEIGHBOUR: 'it returns false'. Refute it at one input. -/
def fallFallsWrong : ChangeSpec := { name := "fallFalls", fn := fun _ => fun
  | [d1, d2, d3, d4] => { results := [.lit (.bool false)], args := [d1, d2, d3, d4] }
  | _ => none }
def FallFallsWrongFalsely : Prop := fallFallsRow.holds Try.pinned (OpenSpec.ofChange fallFallsWrong)

/- THE SECOND FORM. 'bulk': how many values and letters a reading holds, each counted each time it is reached (what is shared counts as often as it is met; a slice's spare places count too). A statement '..UptoSaid' is the law's where the arguments, and the package variables that the reading takes, are together of bulk at most 1048576: NARROWER than '..Said'. Prove '..Said' where nothing that the law and all that it calls make is longer than what came in: it says more and counts as full. Else prove '..UptoSaid'. A law counts once. -/
mutual
def uptoBulk {H : Type} : DataW H → Nat
  | .lit (.string bytes) => bytes.length + 1
  | .lit _ => 1
  | .nil => 1
  | .ptr d => uptoBulk d + 1
  | .slice elems spare => uptoBulkAll elems + uptoBulkAll spare + 1
  | .agg parts => uptoBulkAll parts + 1
  | .iface _ d => uptoBulk d + 1
  | .map entries => uptoBulkEntries entries + 1
  | .held _ => 1
def uptoBulkAll {H : Type} : List (DataW H) → Nat
  | [] => 0
  | d :: r => uptoBulk d + uptoBulkAll r
def uptoBulkEntries {H : Type} : List (Lit × DataW H) → Nat
  | [] => 0
  | x :: r => uptoBulkEntry x + uptoBulkEntries r
def uptoBulkEntry {H : Type} : Lit × DataW H → Nat
  | (.string bytes, d) => bytes.length + uptoBulk d + 1
  | (_, d) => uptoBulk d + 1
 end
def uptoSmall : (H : Type) → List (DataW H) → Bool := fun _ ds => decide (uptoBulkAll ds ≤ 1048576)
def OpenSpec.upto (s : _root_.Go.ChangeSpec) : _root_.Go.OpenSpec := { _root_.Go.OpenSpec.ofChange s with cond := some uptoSmall }

/-- 'tallaw.FallSays', WHERE WHAT IT READS IS OF BULK AT MOST 1048576: true; the input reads as it did. -/
def fallSaysUptoRow : OpenClaim := { program := "ytcelkgbpgpgpjaa", sum := "589470371111c94c842594bcf5a27b54b39849dd28d3074f2b69804ddf015dc6", func := "tallage/tallaw.FallSays", spec := "fallSays", unfollowed := true, recurses := true, apart := false, narrowed := true }
def FallSaysUptoSaid : Prop := fallSaysUptoRow.holds Try.pinned (OpenSpec.upto fallSaysSpec)

/-- 'talkeep.FallSum', WHERE WHAT IT READS IS OF BULK AT MOST 1048576: true; the input reads as it did. -/
def fallSumUptoRow : OpenClaim := { program := "ytcelkgbpgpgpjaa", sum := "589470371111c94c842594bcf5a27b54b39849dd28d3074f2b69804ddf015dc6", func := "tallage/talkeep.FallSum", spec := "fallSum", unfollowed := true, recurses := true, apart := false, narrowed := true }
def FallSumUptoSaid : Prop := fallSumUptoRow.holds Try.pinned (OpenSpec.upto fallSumSpec)

/-- 'talkeep.FallFaster', WHERE WHAT IT READS IS OF BULK AT MOST 1048576: true; the input reads as it did. -/
def fallFasterUptoRow : OpenClaim := { program := "ytcelkgbpgpgpjaa", sum := "589470371111c94c842594bcf5a27b54b39849dd28d3074f2b69804ddf015dc6", func := "tallage/talkeep.FallFaster", spec := "fallFaster", unfollowed := true, recurses := true, apart := false, narrowed := true }
def FallFasterUptoSaid : Prop := fallFasterUptoRow.holds Try.pinned (OpenSpec.upto fallFasterSpec)

/-- 'talkeep.UnitsSum', WHERE WHAT IT READS IS OF BULK AT MOST 1048576: true; the input reads as it did. -/
def unitsSumUptoRow : OpenClaim := { program := "ytcelkgbpgpgpjaa", sum := "589470371111c94c842594bcf5a27b54b39849dd28d3074f2b69804ddf015dc6", func := "tallage/talkeep.UnitsSum", spec := "unitsSum", inPlace := ["slices.overlaps[int]"], unfollowed := true, recurses := true, apart := false, narrowed := true }
def UnitsSumUptoSaid : Prop := unitsSumUptoRow.holds Try.pinned (OpenSpec.upto unitsSumSpec)

/-- 'talkeep.LineOnce', WHERE WHAT IT READS IS OF BULK AT MOST 1048576: true; the input reads as it did. -/
def lineOnceUptoRow : OpenClaim := { program := "ytcelkgbpgpgpjaa", sum := "589470371111c94c842594bcf5a27b54b39849dd28d3074f2b69804ddf015dc6", func := "tallage/talkeep.LineOnce", spec := "lineOnce", unfollowed := true, recurses := true, apart := false, narrowed := true }
def LineOnceUptoSaid : Prop := lineOnceUptoRow.holds Try.pinned (OpenSpec.upto lineOnceSpec)

/-- 'talkeep.FallFalls', WHERE WHAT IT READS IS OF BULK AT MOST 1048576: true; the input reads as it did. -/
def fallFallsUptoRow : OpenClaim := { program := "ytcelkgbpgpgpjaa", sum := "589470371111c94c842594bcf5a27b54b39849dd28d3074f2b69804ddf015dc6", func := "tallage/talkeep.FallFalls", spec := "fallFalls", unfollowed := true, recurses := true, apart := false, narrowed := true }
def FallFallsUptoSaid : Prop := fallFallsUptoRow.holds Try.pinned (OpenSpec.upto fallFallsSpec)

end Rows
end Go.Proofs.Ytcelkgbpgpgpjaa
