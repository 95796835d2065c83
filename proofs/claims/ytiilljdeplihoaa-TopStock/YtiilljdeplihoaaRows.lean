/-
  No cell of these rows narrows 'for every input' (looked for: loops, veiled, ifaces, maps, wideKeys, modest, calm, conditions, laid).
  DERIVED. THE GIVEN ROWS OF THIS SEAT. 6 by the template 'for every input the law returns true; each argument reads behind the call as it read before'; 0 by the template 'total and deterministic' (their statements: YtiilljdeplihoaaTotals.lean).
  GIVEN WITH THE SEED: the statements are not yours to turn. If you find one false, say at which input.
  Laid BY PROGRAM, IN A SANDBOX (cutbox-rows.mjs): the forced cells as the released guide's own fill.sh prints them over the translation af739827adc88b24… (all of the seat's roots in one cut). By AI agents, Wed Nov 11 2026. No macro, syntax, notation, axiom, sorry.
-/
import Derived.Test.YtiilljdeplihoaaChecked
import GoSem.Claim
import GoSem.ClaimJoined
import GoSem.ClaimMapViews
import Derived.JoinedTies
import Derived.KernelRfl
namespace Go.Proofs.Ytiilljdeplihoaa
/- THE CELL 'sum', in the pinned program and in every row, IS THE sha256 OF THE DUMP (.gsa) THAT YtiilljdeplihoaaProg.lean LOADS. Nothing in Lean hashes anything: it is a label: what it is worth is what the hold of that sum in a sandbox is worth. -/
noncomputable def Try.pinned : Pinned := { name := "ytiilljdeplihoaa", sum := "af739827adc88b242f2c45bededa55c1ee86f6bfb4a6f50117c41a8ee41bb2fc", checked := Try.checked }
namespace Rows
def none {H : Type} : Left H := { results := [], args := [] }

/-- 'tallaw.StockSays': WHATEVER THE INPUT: true; the input reads as it did. -/
def stockSaysSpec : ChangeSpec := { name := "stockSays", fn := fun _ => fun
  | [d] => { results := [.lit (.bool true)], args := [d] }
  | _ => none }
def stockSaysRow : OpenClaim := { program := "ytiilljdeplihoaa", sum := "af739827adc88b242f2c45bededa55c1ee86f6bfb4a6f50117c41a8ee41bb2fc", func := "tallage/tallaw.StockSays", spec := "stockSays", apart := false }
def StockSaysSaid : Prop := stockSaysRow.holds Try.pinned (OpenSpec.ofChange stockSaysSpec)

/-- ITS FALSE NEIGHBOUR: 'it returns false'. Refute it at one input. -/
def stockSaysWrong : ChangeSpec := { name := "stockSays", fn := fun _ => fun
  | [d] => { results := [.lit (.bool false)], args := [d] }
  | _ => none }
def StockSaysWrongFalsely : Prop := stockSaysRow.holds Try.pinned (OpenSpec.ofChange stockSaysWrong)

/-- 'talkeep.StockAll': WHATEVER THE INPUT: true; the input reads as it did. -/
def stockAllSpec : ChangeSpec := { name := "stockAll", fn := fun _ => fun
  | [d] => { results := [.lit (.bool true)], args := [d] }
  | _ => none }
def stockAllRow : OpenClaim := { program := "ytiilljdeplihoaa", sum := "af739827adc88b242f2c45bededa55c1ee86f6bfb4a6f50117c41a8ee41bb2fc", func := "tallage/talkeep.StockAll", spec := "stockAll", apart := false }
def StockAllSaid : Prop := stockAllRow.holds Try.pinned (OpenSpec.ofChange stockAllSpec)

/-- ITS FALSE NEIGHBOUR: 'it returns false'. Refute it at one input. -/
def stockAllWrong : ChangeSpec := { name := "stockAll", fn := fun _ => fun
  | [d] => { results := [.lit (.bool false)], args := [d] }
  | _ => none }
def StockAllWrongFalsely : Prop := stockAllRow.holds Try.pinned (OpenSpec.ofChange stockAllWrong)

/-- 'talkeep.StockAhead': WHATEVER THE INPUT: true; the input reads as it did. -/
def stockAheadSpec : ChangeSpec := { name := "stockAhead", fn := fun _ => fun
  | [d1, d2] => { results := [.lit (.bool true)], args := [d1, d2] }
  | _ => none }
def stockAheadRow : OpenClaim := { program := "ytiilljdeplihoaa", sum := "af739827adc88b242f2c45bededa55c1ee86f6bfb4a6f50117c41a8ee41bb2fc", func := "tallage/talkeep.StockAhead", spec := "stockAhead", apart := false }
def StockAheadSaid : Prop := stockAheadRow.holds Try.pinned (OpenSpec.ofChange stockAheadSpec)

/-- ITS FALSE NEIGHBOUR: 'it returns false'. Refute it at one input. -/
def stockAheadWrong : ChangeSpec := { name := "stockAhead", fn := fun _ => fun
  | [d1, d2] => { results := [.lit (.bool false)], args := [d1, d2] }
  | _ => none }
def StockAheadWrongFalsely : Prop := stockAheadRow.holds Try.pinned (OpenSpec.ofChange stockAheadWrong)

/-- 'talkeep.StockDear': WHATEVER THE INPUT: true; the input reads as it did. -/
def stockDearSpec : ChangeSpec := { name := "stockDear", fn := fun _ => fun
  | [d1, d2] => { results := [.lit (.bool true)], args := [d1, d2] }
  | _ => none }
def stockDearRow : OpenClaim := { program := "ytiilljdeplihoaa", sum := "af739827adc88b242f2c45bededa55c1ee86f6bfb4a6f50117c41a8ee41bb2fc", func := "tallage/talkeep.StockDear", spec := "stockDear", apart := false }
def StockDearSaid : Prop := stockDearRow.holds Try.pinned (OpenSpec.ofChange stockDearSpec)

/-- ITS FALSE NEIGHBOUR: 'it returns false'. Refute it at one input. -/
def stockDearWrong : ChangeSpec := { name := "stockDear", fn := fun _ => fun
  | [d1, d2] => { results := [.lit (.bool false)], args := [d1, d2] }
  | _ => none }
def StockDearWrongFalsely : Prop := stockDearRow.holds Try.pinned (OpenSpec.ofChange stockDearWrong)

/-- 'talkeep.StockOut': WHATEVER THE INPUT: true; the input reads as it did. -/
def stockOutSpec : ChangeSpec := { name := "stockOut", fn := fun _ => fun
  | [d1, d2, d3] => { results := [.lit (.bool true)], args := [d1, d2, d3] }
  | _ => none }
def stockOutRow : OpenClaim := { program := "ytiilljdeplihoaa", sum := "af739827adc88b242f2c45bededa55c1ee86f6bfb4a6f50117c41a8ee41bb2fc", func := "tallage/talkeep.StockOut", spec := "stockOut", apart := false }
def StockOutSaid : Prop := stockOutRow.holds Try.pinned (OpenSpec.ofChange stockOutSpec)

/-- ITS FALSE NEIGHBOUR: 'it returns false'. Refute it at one input. -/
def stockOutWrong : ChangeSpec := { name := "stockOut", fn := fun _ => fun
  | [d1, d2, d3] => { results := [.lit (.bool false)], args := [d1, d2, d3] }
  | _ => none }
def StockOutWrongFalsely : Prop := stockOutRow.holds Try.pinned (OpenSpec.ofChange stockOutWrong)

/-- 'taltop.TopStock': WHATEVER THE INPUT: true; the input reads as it did. -/
def topStockSpec : ChangeSpec := { name := "topStock", fn := fun _ => fun
  | [d] => { results := [.lit (.bool true)], args := [d] }
  | _ => none }
def topStockRow : OpenClaim := { program := "ytiilljdeplihoaa", sum := "af739827adc88b242f2c45bededa55c1ee86f6bfb4a6f50117c41a8ee41bb2fc", func := "tallage/taltop.TopStock", spec := "topStock", inPlace := ["slices.overlaps[tallage/api.Entry]"], unfollowed := true, recurses := true, apart := false }
def TopStockSaid : Prop := topStockRow.holds Try.pinned (OpenSpec.ofChange topStockSpec)

/-- ITS FALSE NEIGHBOUR: 'it returns false'. Refute it at one input. -/
def topStockWrong : ChangeSpec := { name := "topStock", fn := fun _ => fun
  | [d] => { results := [.lit (.bool false)], args := [d] }
  | _ => none }
def TopStockWrongFalsely : Prop := topStockRow.holds Try.pinned (OpenSpec.ofChange topStockWrong)

/- THE SECOND FORM. 'bulk': how many values and letters a reading holds, each counted each time it is reached (what is shared counts as often as it is met; a slice's spare places count too). A statement '..UptoSaid' is the law's where the arguments, and the package variables that the reading takes, are together of bulk at most 1048576: NARROWER than '..Said'. Prove '..Said' where nothing that the law and all that it calls make is longer than what came in: it says more and counts as full. Else prove '..UptoSaid'. A law counts once. -/
mutual
def uptoBulk {H : Type} : DataW H → Nat
  | .lit (.string bytes) => bytes.length + 1
  | .lit _ => 1
  | .nil => 1
  | .ptr d => uptoBulk d + 1
  | .slice elems spare => uptoBulkAll elems + uptoBulkAll spare + 1
  | .agg parts => uptoBulkAll parts + 1
  | .iface _ d => uptoBulk d + 1
  | .map entries => uptoBulkEntries entries + 1
  | .held _ => 1
def uptoBulkAll {H : Type} : List (DataW H) → Nat
  | [] => 0
  | d :: r => uptoBulk d + uptoBulkAll r
def uptoBulkEntries {H : Type} : List (Lit × DataW H) → Nat
  | [] => 0
  | x :: r => uptoBulkEntry x + uptoBulkEntries r
def uptoBulkEntry {H : Type} : Lit × DataW H → Nat
  | (.string bytes, d) => bytes.length + uptoBulk d + 1
  | (_, d) => uptoBulk d + 1
 end
def uptoSmall : (H : Type) → List (DataW H) → Bool := fun _ ds => decide (uptoBulkAll ds ≤ 1048576)
def OpenSpec.upto (s : _root_.Go.ChangeSpec) : _root_.Go.OpenSpec := { _root_.Go.OpenSpec.ofChange s with cond := some uptoSmall }

/-- 'tallaw.StockSays', WHERE WHAT IT READS IS OF BULK AT MOST 1048576: true; the input reads as it did. -/
def stockSaysUptoRow : OpenClaim := { program := "ytiilljdeplihoaa", sum := "af739827adc88b242f2c45bededa55c1ee86f6bfb4a6f50117c41a8ee41bb2fc", func := "tallage/tallaw.StockSays", spec := "stockSays", apart := false, narrowed := true }
def StockSaysUptoSaid : Prop := stockSaysUptoRow.holds Try.pinned (OpenSpec.upto stockSaysSpec)

/-- 'talkeep.StockAll', WHERE WHAT IT READS IS OF BULK AT MOST 1048576: true; the input reads as it did. -/
def stockAllUptoRow : OpenClaim := { program := "ytiilljdeplihoaa", sum := "af739827adc88b242f2c45bededa55c1ee86f6bfb4a6f50117c41a8ee41bb2fc", func := "tallage/talkeep.StockAll", spec := "stockAll", apart := false, narrowed := true }
def StockAllUptoSaid : Prop := stockAllUptoRow.holds Try.pinned (OpenSpec.upto stockAllSpec)

/-- 'talkeep.StockAhead', WHERE WHAT IT READS IS OF BULK AT MOST 1048576: true; the input reads as it did. -/
def stockAheadUptoRow : OpenClaim := { program := "ytiilljdeplihoaa", sum := "af739827adc88b242f2c45bededa55c1ee86f6bfb4a6f50117c41a8ee41bb2fc", func := "tallage/talkeep.StockAhead", spec := "stockAhead", apart := false, narrowed := true }
def StockAheadUptoSaid : Prop := stockAheadUptoRow.holds Try.pinned (OpenSpec.upto stockAheadSpec)

/-- 'talkeep.StockDear', WHERE WHAT IT READS IS OF BULK AT MOST 1048576: true; the input reads as it did. -/
def stockDearUptoRow : OpenClaim := { program := "ytiilljdeplihoaa", sum := "af739827adc88b242f2c45bededa55c1ee86f6bfb4a6f50117c41a8ee41bb2fc", func := "tallage/talkeep.StockDear", spec := "stockDear", apart := false, narrowed := true }
def StockDearUptoSaid : Prop := stockDearUptoRow.holds Try.pinned (OpenSpec.upto stockDearSpec)

/-- 'talkeep.StockOut', WHERE WHAT IT READS IS OF BULK AT MOST 1048576: true; the input reads as it did. -/
def stockOutUptoRow : OpenClaim := { program := "ytiilljdeplihoaa", sum := "af739827adc88b242f2c45bededa55c1ee86f6bfb4a6f50117c41a8ee41bb2fc", func := "tallage/talkeep.StockOut", spec := "stockOut", apart := false, narrowed := true }
def StockOutUptoSaid : Prop := stockOutUptoRow.holds Try.pinned (OpenSpec.upto stockOutSpec)

/-- 'taltop.TopStock', WHERE WHAT IT READS IS OF BULK AT MOST 1048576: true; the input reads as it did. -/
def topStockUptoRow : OpenClaim := { program := "ytiilljdeplihoaa", sum := "af739827adc88b242f2c45bededa55c1ee86f6bfb4a6f50117c41a8ee41bb2fc", func := "tallage/taltop.TopStock", spec := "topStock", inPlace := ["slices.overlaps[tallage/api.Entry]"], unfollowed := true, recurses := true, apart := false, narrowed := true }
def TopStockUptoSaid : Prop := topStockUptoRow.holds Try.pinned (OpenSpec.upto topStockSpec)

end Rows
end Go.Proofs.Ytiilljdeplihoaa
