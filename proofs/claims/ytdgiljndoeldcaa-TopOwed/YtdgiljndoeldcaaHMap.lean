/-
  A set of texts (map[string]bool) of the call's own: asked, added to, counted. No condition but those that each theorem names.
-/
import Derived.Test.YtdgiljndoeldcaaHMath
import Derived.Maps.OwnSet
import Derived.Maps.OwnOps
import Derived.StringKeys
namespace Go.Proofs.Ytdgiljndoeldcaa
open Go.RowKit Go.Maps Go.WideMaps
set_option linter.unusedVariables false

/-- What a text reads as, as a key. -/
def keyL (s : ByteArray) : Lit := .string s.data.toList
theorem keyL_is (s : ByteArray) : WideAt.IsKeyLit (keyL s) := by unfold keyL WideAt.IsKeyLit; trivial
theorem keyL_inj {a b : ByteArray} (h : keyL a = keyL b) : a = b := by
  unfold keyL at h
  have : a.data.toList = b.data.toList := by injection h
  exact ba_ext (by rw [Lib.toList_data, Lib.toList_data]; exact this)
/-- The set of the codes of lines. -/
def setD : List Pr → DataW Unit
  | [] => .map []
  | x :: r => (setD r).put (keyL x.1) (.lit (.bool true))
theorem setD_map : ∀ l : List Pr, IsMap (setD l)
  | [] => isMap_empty
  | x :: r => (setD_map r).put _ _
theorem setD_tidy : ∀ l : List Pr, Tidy (setD l)
  | [] => tidy_empty
  | x :: r => (setD_tidy r).put (keyL_is _) _
theorem setD_at (s : ByteArray) : ∀ l : List Pr, (setD l).atKey (keyL s) (.lit (.bool false)) = .lit (.bool (hasB s l))
  | [] => rfl
  | x :: r => by
    rw [setD]
    by_cases h : x.1 = s
    · rw [h, atKey_put_same (setD_map r) (keyL_is _)]
      have : hasB s (x :: r) = true := by unfold hasB; simp [h]
      rw [this]
    · rw [atKey_put_other (fun e => h (keyL_inj e).symm), setD_at s r]
      have : hasB s (x :: r) = hasB s r := by
        unfold hasB
        rw [List.any_cons]
        have : (x.1.toList == s.toList) = false := by
          rw [beq_eq_false_iff_ne]
          exact fun e => h (ba_ext e)
        rw [this]; rfl
      rw [this]
theorem setD_has (s : ByteArray) : ∀ l : List Pr, Maps.has (setD l) (keyL s) = hasB s l
  | [] => rfl
  | x :: r => by
    rw [setD]
    by_cases h : x.1 = s
    · rw [h, has_put_same (setD_map r) (keyL_is _)]
      unfold hasB; simp [h]
    · rw [has_put_other (fun e => h (keyL_inj e).symm), setD_has s r]
      unfold hasB
      rw [List.any_cons]
      have : (x.1.toList == s.toList) = false := by
        rw [beq_eq_false_iff_ne]
        exact fun e => h (ba_ext e)
      rw [this]; rfl
theorem setD_size {x : Pr} {r : List Pr} (h : hasB x.1 r = false) : Maps.size (setD (x :: r)) = Maps.size (setD r) + 1 := by
  rw [setD, size_put (setD_tidy r), setD_has, h]; rfl
/-- The set in memory. -/
structure SetM (w : World) (b n : Nat) (l : List Pr) : Prop where
  own : w.ownsMap Try.prog 9 (plainElem (H := Unit) Try.prog 4) b n (setD l)
theorem SetM.made (w : World) : SetM (w.alloc (.map #[] 0)) w.heap.size 0 [] := ⟨World.ownsMap_made _ _ _ _⟩
theorem SetM.later {w w' : World} {b n : Nat} {l : List Pr} (h : SetM w b n l) (k : Kept w w') : SetM w' b n l := ⟨h.own.kept k.grownBy (by simp)⟩
theorem keyedStr : Keyed Try.prog 9 := string_keyed Try.underlying9
theorem zeroBool (w : World) : (zeroValue 4).run Try.prog w = .ok (.bool false) w := by kernel_rfl
theorem bool_inv {v : Value} {x : Bool} {ps : List MemPlace} (h : plainElem (H := Unit) Try.prog 4 v = some (.lit (.bool x), ps)) : v = .bool x := by
  cases v <;> simp [plainElem, Try.underlying4] at h
  · rw [h.1]
theorem SetM.look {w : World} {b n : Nat} {l : List Pr} (h : SetM w b n l) {s : ByteArray} (hs : s.size ≤ maxLen) :
    (Instr.lookup 119 (.map (some b)) (.string s) false).run Try.prog w = .ok (.bool (hasB s l)) w := by
  obtain ⟨v, ps, hr, hv⟩ := h.own.lookup keyedStr Try.underlying119 (zeroBool w) (plainElem_bool Try.underlying4 false) (keyOf_string_mk Try.underlying9 hs)
  rw [show Lit.string s.data.toList = keyL s from rfl, setD_at] at hv
  rw [hr, bool_inv hv]
theorem SetM.len {w : World} {b n : Nat} {l : List Pr} (h : SetM w b n l) (ty : TypeId) : (Builtin.len_ #[119] ty #[.map (some b)]).run Try.prog w = .ok (.int .i64 (Maps.size (setD l))) w :=
  h.own.len Try.underlying119 ty
/-- One text more. -/
theorem put_one {w : World} {ops : Array Oper} {rest : List Oper} {o : Oper} {a : Act} {Q : Exit → Act → World → Prop} (hg : o.guard = none) (m x v : Operand) (hop : o.op = Op.mapUpdate 119 m x v)
    {b n : Nat} {l : List Pr} {y : Pr} (hm : a.eval m = .map (some b)) (h : SetM w b n l) (hn : n < 1000) (hx : a.eval x = .string y.1) (hv : a.eval v = .bool true) (hs : y.1.size ≤ maxLen)
    (hK : ∀ w', SetM w' b (n + 1) (y :: l) → w.grownBy w' (some b) → wpList Try.prog ops Q rest (a.put o.dst undef) w') : wpList Try.prog ops Q (o :: rest) a w := by
  refine wpList_mapUpdate_own w hg m x v 119 hop 9 4 keyedStr Try.underlying119 _ b n _ hm h.own (by unfold maxLen; omega) _ _ _ hx hv (keyOf_string_mk Try.underlying9 hs) _ [] (plainElem_bool Try.underlying4 true) ?_
  intro w' h1 h2
  exact hK w' ⟨h1⟩ h2
end Go.Proofs.Ytdgiljndoeldcaa
