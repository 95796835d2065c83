/-
  No cell of these rows narrows 'for every input' (looked for: loops, veiled, ifaces, maps, wideKeys, modest, calm, conditions, laid).
  DERIVED. THE GIVEN ROWS OF THIS SEAT. 6 by the template 'for every input the law returns true; each argument reads behind the call as it read before'; 0 by the template 'total and deterministic' (their statements: YtpkdknddncnceabTotals.lean).
  GIVEN WITH THE SEED: the statements are not yours to turn. If you find one false, say at which input.
  Laid BY PROGRAM, IN A SANDBOX (cutbox-rows.mjs): the forced cells as the released guide's own fill.sh prints them over the translation af26e3d3ef2592e1… (all of the seat's roots in one cut). By AI agents, Wed Nov 11 2026. No macro, syntax, notation, axiom, sorry.
-/
import Derived.Test.YtpkdknddncnceabChecked
import GoSem.Claim
import GoSem.ClaimJoined
import GoSem.ClaimMapViews
import Derived.JoinedTies
import Derived.KernelRfl
namespace Go.Proofs.Ytpkdknddncnceab
/- THE CELL 'sum', in the pinned program and in every row, IS THE sha256 OF THE DUMP (.gsa) THAT YtpkdknddncnceabProg.lean LOADS. Nothing in Lean hashes anything: it is a label: what it is worth is what the hold of that sum in a sandbox is worth. -/
noncomputable def Try.pinned : Pinned := { name := "ytpkdknddncnceab", sum := "af26e3d3ef2592e1536d669dd6a2f3693dc418bf9287bda9c61f0472f050aeed", checked := Try.checked }
namespace Rows
def none {H : Type} : Left H := { results := [], args := [] }

/-- 'tallaw.MoneySays': WHATEVER THE INPUT: true; the input reads as it did. -/
def moneySaysSpec : ChangeSpec := { name := "moneySays", fn := fun _ => fun
  | [d1, d2, d3] => { results := [.lit (.bool true)], args := [d1, d2, d3] }
  | _ => none }
def moneySaysRow : OpenClaim := { program := "ytpkdknddncnceab", sum := "af26e3d3ef2592e1536d669dd6a2f3693dc418bf9287bda9c61f0472f050aeed", func := "tallage/tallaw.MoneySays", spec := "moneySays", recurses := true, apart := false }
def MoneySaysSaid : Prop := moneySaysRow.holds Try.pinned (OpenSpec.ofChange moneySaysSpec)

/-- ITS FALSE NEIGHBOUR: 'it returns false'. Refute it at one input. -/
def moneySaysWrong : ChangeSpec := { name := "moneySays", fn := fun _ => fun
  | [d1, d2, d3] => { results := [.lit (.bool false)], args := [d1, d2, d3] }
  | _ => none }
def MoneySaysWrongFalsely : Prop := moneySaysRow.holds Try.pinned (OpenSpec.ofChange moneySaysWrong)

/-- 'talkeep.MoneyBack': WHATEVER THE INPUT: true; the input reads as it did. -/
def moneyBackSpec : ChangeSpec := { name := "moneyBack", fn := fun _ => fun
  | [d1, d2, d3] => { results := [.lit (.bool true)], args := [d1, d2, d3] }
  | _ => none }
def moneyBackRow : OpenClaim := { program := "ytpkdknddncnceab", sum := "af26e3d3ef2592e1536d669dd6a2f3693dc418bf9287bda9c61f0472f050aeed", func := "tallage/talkeep.MoneyBack", spec := "moneyBack", recurses := true, apart := false }
def MoneyBackSaid : Prop := moneyBackRow.holds Try.pinned (OpenSpec.ofChange moneyBackSpec)

/-- ITS FALSE NEIGHBOUR: 'it returns false'. Refute it at one input. -/
def moneyBackWrong : ChangeSpec := { name := "moneyBack", fn := fun _ => fun
  | [d1, d2, d3] => { results := [.lit (.bool false)], args := [d1, d2, d3] }
  | _ => none }
def MoneyBackWrongFalsely : Prop := moneyBackRow.holds Try.pinned (OpenSpec.ofChange moneyBackWrong)

/-- 'talkeep.MoneyGrows': WHATEVER THE INPUT: true; the input reads as it did. -/
def moneyGrowsSpec : ChangeSpec := { name := "moneyGrows", fn := fun _ => fun
  | [d1, d2, d3, d4, d5] => { results := [.lit (.bool true)], args := [d1, d2, d3, d4, d5] }
  | _ => none }
def moneyGrowsRow : OpenClaim := { program := "ytpkdknddncnceab", sum := "af26e3d3ef2592e1536d669dd6a2f3693dc418bf9287bda9c61f0472f050aeed", func := "tallage/talkeep.MoneyGrows", spec := "moneyGrows", recurses := true, apart := false }
def MoneyGrowsSaid : Prop := moneyGrowsRow.holds Try.pinned (OpenSpec.ofChange moneyGrowsSpec)

/-- ITS FALSE NEIGHBOUR: 'it returns false'. Refute it at one input. -/
def moneyGrowsWrong : ChangeSpec := { name := "moneyGrows", fn := fun _ => fun
  | [d1, d2, d3, d4, d5] => { results := [.lit (.bool false)], args := [d1, d2, d3, d4, d5] }
  | _ => none }
def MoneyGrowsWrongFalsely : Prop := moneyGrowsRow.holds Try.pinned (OpenSpec.ofChange moneyGrowsWrong)

/-- 'talkeep.MoneyParts': WHATEVER THE INPUT: true; the input reads as it did. -/
def moneyPartsSpec : ChangeSpec := { name := "moneyParts", fn := fun _ => fun
  | [d1, d2, d3, d4] => { results := [.lit (.bool true)], args := [d1, d2, d3, d4] }
  | _ => none }
def moneyPartsRow : OpenClaim := { program := "ytpkdknddncnceab", sum := "af26e3d3ef2592e1536d669dd6a2f3693dc418bf9287bda9c61f0472f050aeed", func := "tallage/talkeep.MoneyParts", spec := "moneyParts", unfollowed := true, recurses := true, apart := false }
def MoneyPartsSaid : Prop := moneyPartsRow.holds Try.pinned (OpenSpec.ofChange moneyPartsSpec)

/-- ITS FALSE NEIGHBOUR: 'it returns false'. Refute it at one input. -/
def moneyPartsWrong : ChangeSpec := { name := "moneyParts", fn := fun _ => fun
  | [d1, d2, d3, d4] => { results := [.lit (.bool false)], args := [d1, d2, d3, d4] }
  | _ => none }
def MoneyPartsWrongFalsely : Prop := moneyPartsRow.holds Try.pinned (OpenSpec.ofChange moneyPartsWrong)

/-- 'talkeep.MoneyEnds': WHATEVER THE INPUT: true; the input reads as it did. -/
def moneyEndsSpec : ChangeSpec := { name := "moneyEnds", fn := fun _ => fun
  | [d1, d2, d3] => { results := [.lit (.bool true)], args := [d1, d2, d3] }
  | _ => none }
def moneyEndsRow : OpenClaim := { program := "ytpkdknddncnceab", sum := "af26e3d3ef2592e1536d669dd6a2f3693dc418bf9287bda9c61f0472f050aeed", func := "tallage/talkeep.MoneyEnds", spec := "moneyEnds", recurses := true, apart := false }
def MoneyEndsSaid : Prop := moneyEndsRow.holds Try.pinned (OpenSpec.ofChange moneyEndsSpec)

/-- ITS FALSE NEIGHBOUR: 'it returns false'. Refute it at one input. -/
def moneyEndsWrong : ChangeSpec := { name := "moneyEnds", fn := fun _ => fun
  | [d1, d2, d3] => { results := [.lit (.bool false)], args := [d1, d2, d3] }
  | _ => none }
def MoneyEndsWrongFalsely : Prop := moneyEndsRow.holds Try.pinned (OpenSpec.ofChange moneyEndsWrong)

/-- 'talkeep.MoneyTwice': WHATEVER THE INPUT: true; the input reads as it did. -/
def moneyTwiceSpec : ChangeSpec := { name := "moneyTwice", fn := fun _ => fun
  | [d1, d2, d3, d4] => { results := [.lit (.bool true)], args := [d1, d2, d3, d4] }
  | _ => none }
def moneyTwiceRow : OpenClaim := { program := "ytpkdknddncnceab", sum := "af26e3d3ef2592e1536d669dd6a2f3693dc418bf9287bda9c61f0472f050aeed", func := "tallage/talkeep.MoneyTwice", spec := "moneyTwice", recurses := true, apart := false }
def MoneyTwiceSaid : Prop := moneyTwiceRow.holds Try.pinned (OpenSpec.ofChange moneyTwiceSpec)

/-- ITS FALSE NEIGHBOUR: 'it returns false'. Refute it at one input. -/
def moneyTwiceWrong : ChangeSpec := { name := "moneyTwice", fn := fun _ => fun
  | [d1, d2, d3, d4] => { results := [.lit (.bool false)], args := [d1, d2, d3, d4] }
  | _ => none }
def MoneyTwiceWrongFalsely : Prop := moneyTwiceRow.holds Try.pinned (OpenSpec.ofChange moneyTwiceWrong)

/- THE SECOND FORM. 'bulk': how many values and letters a reading holds, each counted each time it is reached (what is shared counts as often as it is met; a slice's spare places count too). A statement '..UptoSaid' is the law's where the arguments, and the package variables that the reading takes, are together of bulk at most 1048576: NARROWER than '..Said'. Prove '..Said' where nothing that the law and all that it calls make is longer than what came in: it says more and counts as full. Else prove '..UptoSaid'. A law counts once. -/
mutual
def uptoBulk {H : Type} : DataW H → Nat
  | .lit (.string bytes) => bytes.length + 1
  | .lit _ => 1
  | .nil => 1
  | .ptr d => uptoBulk d + 1
  | .slice elems spare => uptoBulkAll elems + uptoBulkAll spare + 1
  | .agg parts => uptoBulkAll parts + 1
  | .iface _ d => uptoBulk d + 1
  | .map entries => uptoBulkEntries entries + 1
  | .held _ => 1
def uptoBulkAll {H : Type} : List (DataW H) → Nat
  | [] => 0
  | d :: r => uptoBulk d + uptoBulkAll r
def uptoBulkEntries {H : Type} : List (Lit × DataW H) → Nat
  | [] => 0
  | x :: r => uptoBulkEntry x + uptoBulkEntries r
def uptoBulkEntry {H : Type} : Lit × DataW H → Nat
  | (.string bytes, d) => bytes.length + uptoBulk d + 1
  | (_, d) => uptoBulk d + 1
 end
def uptoSmall : (H : Type) → List (DataW H) → Bool := fun _ ds => decide (uptoBulkAll ds ≤ 1048576)
def OpenSpec.upto (s : _root_.Go.ChangeSpec) : _root_.Go.OpenSpec := { _root_.Go.OpenSpec.ofChange s with cond := some uptoSmall }

/-- 'tallaw.MoneySays', WHERE WHAT IT READS IS OF BULK AT MOST 1048576: true; the input reads as it did. -/
def moneySaysUptoRow : OpenClaim := { program := "ytpkdknddncnceab", sum := "af26e3d3ef2592e1536d669dd6a2f3693dc418bf9287bda9c61f0472f050aeed", func := "tallage/tallaw.MoneySays", spec := "moneySays", recurses := true, apart := false, narrowed := true }
def MoneySaysUptoSaid : Prop := moneySaysUptoRow.holds Try.pinned (OpenSpec.upto moneySaysSpec)

/-- 'talkeep.MoneyBack', WHERE WHAT IT READS IS OF BULK AT MOST 1048576: true; the input reads as it did. -/
def moneyBackUptoRow : OpenClaim := { program := "ytpkdknddncnceab", sum := "af26e3d3ef2592e1536d669dd6a2f3693dc418bf9287bda9c61f0472f050aeed", func := "tallage/talkeep.MoneyBack", spec := "moneyBack", recurses := true, apart := false, narrowed := true }
def MoneyBackUptoSaid : Prop := moneyBackUptoRow.holds Try.pinned (OpenSpec.upto moneyBackSpec)

/-- 'talkeep.MoneyGrows', WHERE WHAT IT READS IS OF BULK AT MOST 1048576: true; the input reads as it did. -/
def moneyGrowsUptoRow : OpenClaim := { program := "ytpkdknddncnceab", sum := "af26e3d3ef2592e1536d669dd6a2f3693dc418bf9287bda9c61f0472f050aeed", func := "tallage/talkeep.MoneyGrows", spec := "moneyGrows", recurses := true, apart := false, narrowed := true }
def MoneyGrowsUptoSaid : Prop := moneyGrowsUptoRow.holds Try.pinned (OpenSpec.upto moneyGrowsSpec)

/-- 'talkeep.MoneyParts', WHERE WHAT IT READS IS OF BULK AT MOST 1048576: true; the input reads as it did. -/
def moneyPartsUptoRow : OpenClaim := { program := "ytpkdknddncnceab", sum := "af26e3d3ef2592e1536d669dd6a2f3693dc418bf9287bda9c61f0472f050aeed", func := "tallage/talkeep.MoneyParts", spec := "moneyParts", unfollowed := true, recurses := true, apart := false, narrowed := true }
def MoneyPartsUptoSaid : Prop := moneyPartsUptoRow.holds Try.pinned (OpenSpec.upto moneyPartsSpec)

/-- 'talkeep.MoneyEnds', WHERE WHAT IT READS IS OF BULK AT MOST 1048576: true; the input reads as it did. -/
def moneyEndsUptoRow : OpenClaim := { program := "ytpkdknddncnceab", sum := "af26e3d3ef2592e1536d669dd6a2f3693dc418bf9287bda9c61f0472f050aeed", func := "tallage/talkeep.MoneyEnds", spec := "moneyEnds", recurses := true, apart := false, narrowed := true }
def MoneyEndsUptoSaid : Prop := moneyEndsUptoRow.holds Try.pinned (OpenSpec.upto moneyEndsSpec)

/-- 'talkeep.MoneyTwice', WHERE WHAT IT READS IS OF BULK AT MOST 1048576: true; the input reads as it did. -/
def moneyTwiceUptoRow : OpenClaim := { program := "ytpkdknddncnceab", sum := "af26e3d3ef2592e1536d669dd6a2f3693dc418bf9287bda9c61f0472f050aeed", func := "tallage/talkeep.MoneyTwice", spec := "moneyTwice", recurses := true, apart := false, narrowed := true }
def MoneyTwiceUptoSaid : Prop := moneyTwiceUptoRow.holds Try.pinned (OpenSpec.upto moneyTwiceSpec)

end Rows
end Go.Proofs.Ytpkdknddncnceab
