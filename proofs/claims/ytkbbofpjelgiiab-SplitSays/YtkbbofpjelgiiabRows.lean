/-
  No cell of these rows narrows 'for every input' (looked for: loops, veiled, ifaces, maps, wideKeys, modest, calm, conditions, laid).
  DERIVED. THE GIVEN ROWS OF THIS SEAT. 6 by the template 'for every input the law returns true; each argument reads behind the call as it read before'; 0 by the template 'total and deterministic' (their statements: YtkbbofpjelgiiabTotals.lean).
  GIVEN WITH THE SEED: the statements are not yours to turn. If you find one false, say at which input.
  Laid BY PROGRAM, IN A SANDBOX (cutbox-rows.mjs): the forced cells as the released guide's own fill.sh prints them over the translation e1826b036d9e7975… (all of the seat's roots in one cut). By AI agents, Wed Nov 11 2026. No macro, syntax, notation, axiom, sorry.
-/
import Derived.Test.YtkbbofpjelgiiabChecked
import GoSem.Claim
import GoSem.ClaimJoined
import GoSem.ClaimMapViews
import Derived.JoinedTies
import Derived.KernelRfl
namespace Go.Proofs.Ytkbbofpjelgiiab
/- THE CELL 'sum', in the pinned program and in every row, IS THE sha256 OF THE DUMP (.gsa) THAT YtkbbofpjelgiiabProg.lean LOADS. Nothing in Lean hashes anything: it is a label: what it is worth is what the hold of that sum in a sandbox is worth. -/
noncomputable def Try.pinned : Pinned := { name := "ytkbbofpjelgiiab", sum := "e1826b036d9e79758b65e945ba9de6688c3cfd1ffb86d19a00531573cb86ba8f", checked := Try.checked }
namespace Rows
def none {H : Type} : Left H := { results := [], args := [] }

/-- 'tallaw.SplitSays': WHATEVER THE INPUT: true; the input reads as it did. -/
def splitSaysSpec : ChangeSpec := { name := "splitSays", fn := fun _ => fun
  | [d1, d2, d3] => { results := [.lit (.bool true)], args := [d1, d2, d3] }
  | _ => none }
def splitSaysRow : OpenClaim := { program := "ytkbbofpjelgiiab", sum := "e1826b036d9e79758b65e945ba9de6688c3cfd1ffb86d19a00531573cb86ba8f", func := "tallage/tallaw.SplitSays", spec := "splitSays", unfollowed := true, recurses := true, apart := false }
def SplitSaysSaid : Prop := splitSaysRow.holds Try.pinned (OpenSpec.ofChange splitSaysSpec)

/-- ITS FALSE NEIGHBOUR: 'it returns false'. Refute it at one input. -/
def splitSaysWrong : ChangeSpec := { name := "splitSays", fn := fun _ => fun
  | [d1, d2, d3] => { results := [.lit (.bool false)], args := [d1, d2, d3] }
  | _ => none }
def SplitSaysWrongFalsely : Prop := splitSaysRow.holds Try.pinned (OpenSpec.ofChange splitSaysWrong)

/-- 'talkeep.SplitSum': WHATEVER THE INPUT: true; the input reads as it did. -/
def splitSumSpec : ChangeSpec := { name := "splitSum", fn := fun _ => fun
  | [d1, d2] => { results := [.lit (.bool true)], args := [d1, d2] }
  | _ => none }
def splitSumRow : OpenClaim := { program := "ytkbbofpjelgiiab", sum := "e1826b036d9e79758b65e945ba9de6688c3cfd1ffb86d19a00531573cb86ba8f", func := "tallage/talkeep.SplitSum", spec := "splitSum", unfollowed := true, recurses := true, apart := false }
def SplitSumSaid : Prop := splitSumRow.holds Try.pinned (OpenSpec.ofChange splitSumSpec)

/-- ITS FALSE NEIGHBOUR: 'it returns false'. Refute it at one input. -/
def splitSumWrong : ChangeSpec := { name := "splitSum", fn := fun _ => fun
  | [d1, d2] => { results := [.lit (.bool false)], args := [d1, d2] }
  | _ => none }
def SplitSumWrongFalsely : Prop := splitSumRow.holds Try.pinned (OpenSpec.ofChange splitSumWrong)

/-- 'talkeep.SplitOrder': WHATEVER THE INPUT: true; the input reads as it did. -/
def splitOrderSpec : ChangeSpec := { name := "splitOrder", fn := fun _ => fun
  | [d1, d2, d3] => { results := [.lit (.bool true)], args := [d1, d2, d3] }
  | _ => none }
def splitOrderRow : OpenClaim := { program := "ytkbbofpjelgiiab", sum := "e1826b036d9e79758b65e945ba9de6688c3cfd1ffb86d19a00531573cb86ba8f", func := "tallage/talkeep.SplitOrder", spec := "splitOrder", unfollowed := true, recurses := true, apart := false }
def SplitOrderSaid : Prop := splitOrderRow.holds Try.pinned (OpenSpec.ofChange splitOrderSpec)

/-- ITS FALSE NEIGHBOUR: 'it returns false'. Refute it at one input. -/
def splitOrderWrong : ChangeSpec := { name := "splitOrder", fn := fun _ => fun
  | [d1, d2, d3] => { results := [.lit (.bool false)], args := [d1, d2, d3] }
  | _ => none }
def SplitOrderWrongFalsely : Prop := splitOrderRow.holds Try.pinned (OpenSpec.ofChange splitOrderWrong)

/-- 'talkeep.SplitEven': WHATEVER THE INPUT: true; the input reads as it did. -/
def splitEvenSpec : ChangeSpec := { name := "splitEven", fn := fun _ => fun
  | [d1, d2] => { results := [.lit (.bool true)], args := [d1, d2] }
  | _ => none }
def splitEvenRow : OpenClaim := { program := "ytkbbofpjelgiiab", sum := "e1826b036d9e79758b65e945ba9de6688c3cfd1ffb86d19a00531573cb86ba8f", func := "tallage/talkeep.SplitEven", spec := "splitEven", apart := false }
def SplitEvenSaid : Prop := splitEvenRow.holds Try.pinned (OpenSpec.ofChange splitEvenSpec)

/-- ITS FALSE NEIGHBOUR: 'it returns false'. Refute it at one input. -/
def splitEvenWrong : ChangeSpec := { name := "splitEven", fn := fun _ => fun
  | [d1, d2] => { results := [.lit (.bool false)], args := [d1, d2] }
  | _ => none }
def SplitEvenWrongFalsely : Prop := splitEvenRow.holds Try.pinned (OpenSpec.ofChange splitEvenWrong)

/-- 'talkeep.SplitAlone': WHATEVER THE INPUT: true; the input reads as it did. -/
def splitAloneSpec : ChangeSpec := { name := "splitAlone", fn := fun _ => fun
  | [d1, d2, d3] => { results := [.lit (.bool true)], args := [d1, d2, d3] }
  | _ => none }
def splitAloneRow : OpenClaim := { program := "ytkbbofpjelgiiab", sum := "e1826b036d9e79758b65e945ba9de6688c3cfd1ffb86d19a00531573cb86ba8f", func := "tallage/talkeep.SplitAlone", spec := "splitAlone", unfollowed := true, recurses := true, apart := false }
def SplitAloneSaid : Prop := splitAloneRow.holds Try.pinned (OpenSpec.ofChange splitAloneSpec)

/-- ITS FALSE NEIGHBOUR: 'it returns false'. Refute it at one input. -/
def splitAloneWrong : ChangeSpec := { name := "splitAlone", fn := fun _ => fun
  | [d1, d2, d3] => { results := [.lit (.bool false)], args := [d1, d2, d3] }
  | _ => none }
def SplitAloneWrongFalsely : Prop := splitAloneRow.holds Try.pinned (OpenSpec.ofChange splitAloneWrong)

/-- 'talkeep.SplitAhead': WHATEVER THE INPUT: true; the input reads as it did. -/
def splitAheadSpec : ChangeSpec := { name := "splitAhead", fn := fun _ => fun
  | [d1, d2, d3] => { results := [.lit (.bool true)], args := [d1, d2, d3] }
  | _ => none }
def splitAheadRow : OpenClaim := { program := "ytkbbofpjelgiiab", sum := "e1826b036d9e79758b65e945ba9de6688c3cfd1ffb86d19a00531573cb86ba8f", func := "tallage/talkeep.SplitAhead", spec := "splitAhead", apart := false }
def SplitAheadSaid : Prop := splitAheadRow.holds Try.pinned (OpenSpec.ofChange splitAheadSpec)

/-- ITS FALSE NEIGHBOUR: 'it returns false'. Refute it at one input. -/
def splitAheadWrong : ChangeSpec := { name := "splitAhead", fn := fun _ => fun
  | [d1, d2, d3] => { results := [.lit (.bool false)], args := [d1, d2, d3] }
  | _ => none }
def SplitAheadWrongFalsely : Prop := splitAheadRow.holds Try.pinned (OpenSpec.ofChange splitAheadWrong)

/- THE SECOND FORM. 'bulk': how many values and letters a reading holds, each counted each time it is reached (what is shared counts as often as it is met; a slice's spare places count too). A statement '..UptoSaid' is the law's where the arguments, and the package variables that the reading takes, are together of bulk at most 1048576: NARROWER than '..Said'. Prove '..Said' where nothing that the law and all that it calls make is longer than what came in: it says more and counts as full. Else prove '..UptoSaid'. A law counts once. -/
mutual
def uptoBulk {H : Type} : DataW H → Nat
  | .lit (.string bytes) => bytes.length + 1
  | .lit _ => 1
  | .nil => 1
  | .ptr d => uptoBulk d + 1
  | .slice elems spare => uptoBulkAll elems + uptoBulkAll spare + 1
  | .agg parts => uptoBulkAll parts + 1
  | .iface _ d => uptoBulk d + 1
  | .map entries => uptoBulkEntries entries + 1
  | .held _ => 1
def uptoBulkAll {H : Type} : List (DataW H) → Nat
  | [] => 0
  | d :: r => uptoBulk d + uptoBulkAll r
def uptoBulkEntries {H : Type} : List (Lit × DataW H) → Nat
  | [] => 0
  | x :: r => uptoBulkEntry x + uptoBulkEntries r
def uptoBulkEntry {H : Type} : Lit × DataW H → Nat
  | (.string bytes, d) => bytes.length + uptoBulk d + 1
  | (_, d) => uptoBulk d + 1
 end
def uptoSmall : (H : Type) → List (DataW H) → Bool := fun _ ds => decide (uptoBulkAll ds ≤ 1048576)
def OpenSpec.upto (s : _root_.Go.ChangeSpec) : _root_.Go.OpenSpec := { _root_.Go.OpenSpec.ofChange s with cond := some uptoSmall }

/-- 'tallaw.SplitSays', WHERE WHAT IT READS IS OF BULK AT MOST 1048576: true; the input reads as it did. -/
def splitSaysUptoRow : OpenClaim := { program := "ytkbbofpjelgiiab", sum := "e1826b036d9e79758b65e945ba9de6688c3cfd1ffb86d19a00531573cb86ba8f", func := "tallage/tallaw.SplitSays", spec := "splitSays", unfollowed := true, recurses := true, apart := false, narrowed := true }
def SplitSaysUptoSaid : Prop := splitSaysUptoRow.holds Try.pinned (OpenSpec.upto splitSaysSpec)

/-- 'talkeep.SplitSum', WHERE WHAT IT READS IS OF BULK AT MOST 1048576: true; the input reads as it did. -/
def splitSumUptoRow : OpenClaim := { program := "ytkbbofpjelgiiab", sum := "e1826b036d9e79758b65e945ba9de6688c3cfd1ffb86d19a00531573cb86ba8f", func := "tallage/talkeep.SplitSum", spec := "splitSum", unfollowed := true, recurses := true, apart := false, narrowed := true }
def SplitSumUptoSaid : Prop := splitSumUptoRow.holds Try.pinned (OpenSpec.upto splitSumSpec)

/-- 'talkeep.SplitOrder', WHERE WHAT IT READS IS OF BULK AT MOST 1048576: true; the input reads as it did. -/
def splitOrderUptoRow : OpenClaim := { program := "ytkbbofpjelgiiab", sum := "e1826b036d9e79758b65e945ba9de6688c3cfd1ffb86d19a00531573cb86ba8f", func := "tallage/talkeep.SplitOrder", spec := "splitOrder", unfollowed := true, recurses := true, apart := false, narrowed := true }
def SplitOrderUptoSaid : Prop := splitOrderUptoRow.holds Try.pinned (OpenSpec.upto splitOrderSpec)

/-- 'talkeep.SplitEven', WHERE WHAT IT READS IS OF BULK AT MOST 1048576: true; the input reads as it did. -/
def splitEvenUptoRow : OpenClaim := { program := "ytkbbofpjelgiiab", sum := "e1826b036d9e79758b65e945ba9de6688c3cfd1ffb86d19a00531573cb86ba8f", func := "tallage/talkeep.SplitEven", spec := "splitEven", apart := false, narrowed := true }
def SplitEvenUptoSaid : Prop := splitEvenUptoRow.holds Try.pinned (OpenSpec.upto splitEvenSpec)

/-- 'talkeep.SplitAlone', WHERE WHAT IT READS IS OF BULK AT MOST 1048576: true; the input reads as it did. -/
def splitAloneUptoRow : OpenClaim := { program := "ytkbbofpjelgiiab", sum := "e1826b036d9e79758b65e945ba9de6688c3cfd1ffb86d19a00531573cb86ba8f", func := "tallage/talkeep.SplitAlone", spec := "splitAlone", unfollowed := true, recurses := true, apart := false, narrowed := true }
def SplitAloneUptoSaid : Prop := splitAloneUptoRow.holds Try.pinned (OpenSpec.upto splitAloneSpec)

/-- 'talkeep.SplitAhead', WHERE WHAT IT READS IS OF BULK AT MOST 1048576: true; the input reads as it did. -/
def splitAheadUptoRow : OpenClaim := { program := "ytkbbofpjelgiiab", sum := "e1826b036d9e79758b65e945ba9de6688c3cfd1ffb86d19a00531573cb86ba8f", func := "tallage/talkeep.SplitAhead", spec := "splitAhead", apart := false, narrowed := true }
def SplitAheadUptoSaid : Prop := splitAheadUptoRow.holds Try.pinned (OpenSpec.upto splitAheadSpec)

end Rows
end Go.Proofs.Ytkbbofpjelgiiab
