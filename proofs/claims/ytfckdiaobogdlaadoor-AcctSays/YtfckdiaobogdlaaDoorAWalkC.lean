/-
  What the library's slices.Equal, Contains, ContainsFunc and IsSorted return at rows of texts. No condition but those that each theorem names.
-/
import Derived.Test.YtfckdiaobogdlaaDoorAMath
namespace Go.Proofs.YtfckdiaobogdlaaDoor
open Go.RowKit
set_option linter.unusedVariables false

set_option maxHeartbeats 2000000 in
theorem tequal_yes (l : List ByteArray) (a b : Option Addr) (n cap cap' : Nat) (w : World) (hn : l.length ≤ 1000) (e : l.length = n) (hR : TArg w a l) (hQ : TArg w b l) :
    Calls Tryd.prog 11 #[.slice a n cap, .slice b n cap'] w fun e w' => e = .returned (.bool true) ∧ Drew w w' := by
  have HR := Lib.hid hR
  have HQ := Lib.hid hQ
  have HE := Lib.hid e
  have hn' : n ≤ 1000 := by omega
  clear hR hQ e hn
  go_enter Tryd.func11, Tryd.ntmps11
  go_wp2
  go_loopw [13] (fun i wr => ∃ k m : Nat, k ≤ n ∧ i = .int .i64 k ∧ wr = w.drewN m) (fun i _ => (n - intOf i).toNat)
  case atStart => exact ⟨0, 0, by omega, rfl, rfl⟩
  case round =>
    obtain ⟨k, m, hk, rfl, rfl⟩ := hrel
    by_cases hlt : k < n
    · have hl : k < l.length := by rw [HE.out]; exact hlt
      obtain ⟨p, off, rfl, hp⟩ := HR.out.at hl
      obtain ⟨q, off', rfl, hq⟩ := HQ.out.at hl
      have c0 := hp.c k hl
      have d0 := hq.c k hl
      clear hp hq
      generalize l[k] = x at *
      clear hl
      have i0 : (0 : Int) ≤ (k : Int) := by omega
      have i1 : (k : Int) < (n : Int) := by omega
      go_wp2_with fail
      go_quiet (fail)
      go_wp2
      go_roundw
      case rel => exact ⟨k + 1, _, by omega, by go_num, rfl⟩
      case measure => simp [intOf]; omega
    · obtain rfl : k = n := by omega
      clear hlt
      go_wp2
      go_ret
      exact ⟨rfl, m, rfl⟩
theorem any_snoc {P : ByteArray → Bool} {l : List ByteArray} {k : Nat} (h : k < l.length) (a : (l.take k).any P = false) (b : P l[k] = false) : (l.take (k + 1)).any P = false := by
  rw [List.take_succ_eq_append_getElem h, List.any_append, a]; simp [b]
theorem any_at {P : ByteArray → Bool} {l : List ByteArray} {k : Nat} (h : k < l.length) (b : P l[k] = true) : l.any P = true := by
  rw [List.any_eq_true]; exact ⟨_, List.getElem_mem _, b⟩
/-- A place, if there is one; else -1. -/
def PlaceOf (b : Bool) (w : World) (e : Ending) (w' : World) : Prop := ∃ n : Int, e = .returned (.int .i64 n) ∧ decide (0 ≤ n) = b ∧ w = w'
/-- A row of texts in a box. -/
structure VBx (w : World) (p : Nat) (v : Value) : Prop where
  lt : p < w.heap.size
  c0 : w.cell? ⟨p, 0, none⟩ = some v
theorem VBx.later {w w' : World} {p : Nat} {v : Value} (h : VBx w p v) (k : Kept w w') : VBx w' p v :=
  ⟨Nat.lt_of_lt_of_le h.lt k.le, (k.rd.1 _ _ h.lt).trans h.c0⟩
end Go.Proofs.YtfckdiaobogdlaaDoor
