/-
  A set of numbers (map[int]bool) of the call's own: asked, added to. No condition but those that each theorem names.
-/
import Derived.Test.YtdgiljndoeldcaaGTieL
import Derived.Maps.OwnSet
import Derived.Maps.OwnOps
namespace Go.Proofs.Ytdgiljndoeldcaa
open Go.RowKit Go.Maps Go.WideMaps
set_option linter.unusedVariables false

/-- What a number reads as, as a key. -/
def keyN (k : Int) : Lit := .int .i64 k
theorem keyN_is (k : Int) : WideAt.IsKeyLit (keyN k) := by unfold keyN WideAt.IsKeyLit; trivial
theorem keyN_inj {a b : Int} (h : keyN a = keyN b) : a = b := by unfold keyN at h; injection h
def bset : List (Int × Bool) → DataW Unit
  | [] => .map []
  | x :: r => (bset r).put (keyN x.1) (.lit (.bool x.2))
def bget (k : Int) : List (Int × Bool) → Bool
  | [] => false
  | x :: r => if x.1 = k then x.2 else bget k r
theorem bset_map : ∀ l, IsMap (bset l)
  | [] => isMap_empty
  | x :: r => (bset_map r).put _ _
theorem bset_at (k : Int) : ∀ l, (bset l).atKey (keyN k) (.lit (.bool false)) = .lit (.bool (bget k l))
  | [] => rfl
  | x :: r => by
    rw [bset, bget]
    by_cases h : x.1 = k
    · rw [if_pos h, h, atKey_put_same (bset_map r) (keyN_is _)]
    · rw [if_neg h, atKey_put_other (fun e => h (keyN_inj e).symm), bset_at k r]
/-- The map in memory. -/
structure BMp (w : World) (b n : Nat) (l : List (Int × Bool)) : Prop where
  own : w.ownsMap Try.prog 3 (plainElem (H := Unit) Try.prog 4) b n (bset l)
theorem BMp.made (w : World) : BMp (w.alloc (.map #[] 0)) w.heap.size 0 [] := ⟨World.ownsMap_made _ _ _ _⟩
theorem BMp.later {w w' : World} {b n : Nat} {l : List (Int × Bool)} (h : BMp w b n l) (k : Kept w w') : BMp w' b n l := ⟨h.own.kept (k.grownN none) (by simp)⟩
theorem keyedInt : Keyed Try.prog 3 := int_keyed Try.underlying3
theorem zeroBoolB (w : World) : (zeroValue 4).run Try.prog w = .ok (.bool false) w := by kernel_rfl
theorem bool_invB {v : Value} {x : Bool} {ps : List MemPlace} (h : plainElem (H := Unit) Try.prog 4 v = some (.lit (.bool x), ps)) : v = .bool x := by
  cases v <;> simp [plainElem, Try.underlying4] at h
  · rw [h.1]
theorem wf_small {k : Int} (h0 : -1000 ≤ k) (h1 : k ≤ 1000) : (Lit.int .i64 k).wf = true := by
  show (decide (IntKind.i64.min ≤ k) && decide (k ≤ IntKind.i64.max)) = true
  rw [Bool.and_eq_true, decide_eq_true_eq, decide_eq_true_eq]
  have e1 : IntKind.i64.min = -9223372036854775808 := by decide
  have e2 : IntKind.i64.max = 9223372036854775807 := by decide
  rw [e1, e2]; omega
theorem BMp.look {w : World} {b n : Nat} {l : List (Int × Bool)} (h : BMp w b n l) {k : Int} (h0 : -1000 ≤ k) (h1 : k ≤ 1000) :
    (Instr.lookup 48 (.map (some b)) (.int .i64 k) false).run Try.prog w = .ok (.bool (bget k l)) w := by
  obtain ⟨v, ps, hr, hv⟩ := h.own.lookup keyedInt Try.underlying48 (zeroBoolB w) (plainElem_bool Try.underlying4 false) (keyOf_int_mk Try.underlying3 (wf_small h0 h1))
  rw [show Lit.int .i64 k = keyN k from rfl, bset_at] at hv
  rw [hr, bool_invB hv]
/-- One number more. -/
theorem put_b {w : World} {ops : Array Oper} {rest : List Oper} {o : Oper} {a : Act} {Q : Exit → Act → World → Prop} (hg : o.guard = none) (m x v : Operand) (hop : o.op = Op.mapUpdate 48 m x v)
    {b n : Nat} {l : List (Int × Bool)} {k : Int} {y : Bool} (hm : a.eval m = .map (some b)) (h : BMp w b n l) (hn : n < 1000) (hx : a.eval x = .int .i64 k) (hv : a.eval v = .bool y) (h0 : -1000 ≤ k) (h1 : k ≤ 1000)
    (hK : ∀ w', BMp w' b (n + 1) ((k, y) :: l) → w.grownBy w' (some b) → wpList Try.prog ops Q rest (a.put o.dst undef) w') : wpList Try.prog ops Q (o :: rest) a w := by
  refine wpList_mapUpdate_own w hg m x v 48 hop 3 4 keyedInt Try.underlying48 _ b n _ hm h.own (by unfold maxLen; omega) _ _ _ hx hv (keyOf_int_mk Try.underlying3 (wf_small h0 h1)) _ [] (plainElem_bool Try.underlying4 y) ?_
  intro w' h1 h2
  exact hK w' ⟨h1⟩ h2
end Go.Proofs.Ytdgiljndoeldcaa
