/-
  What the small functions of package split and of the laws return: validAmount, badWeight, size, signed, Even, sum, Within. No condition but those that each theorem names.
-/
import Derived.Test.YtjfflnkocajkeaaDoorSMath
namespace Go.Proofs.YtjfflnkocajkeaaDoor
open Go.RowKit

def amB (a : Int) : Bool := decide (-1000000000000 ≤ a ∧ a ≤ 1000000000000)
theorem am_iff (a : Int) : amB a = true ↔ (-1000000000000 ≤ a ∧ a ≤ 1000000000000) := by unfold amB; exact decide_eq_true_iff
/-- signed: the parts with the sign of the amount. -/
def Signed (B : World) (p n : Nat) (amount : Int) (g : Nat → Int) (e : Ending) (w' : World) : Prop :=
  e = .returned (.slice (some ⟨p, 0, none⟩) n n) ∧ Own w' p (tab n fun i => sg amount (g i)) ∧ Kept B w'
/-- Even: the parts in a new row. -/
def EvenPost (w : World) (amount : Int) (n : Nat) (e : Ending) (w' : World) : Prop :=
  ∃ p : Nat, w.heap.size ≤ p ∧ e = .returned (.tuple #[.slice (some ⟨p, 0, none⟩) n n, .int .i64 0]) ∧ Own w' p (tab n (evV amount n)) ∧ Kept w w'
theorem mulk_bd (a : Int) (k : Nat) (h0 : 0 ≤ a) (h1 : a ≤ 1000000000000) (hk : k ≤ 40) : 0 ≤ a * (k : Int) ∧ a * (k : Int) ≤ 40000000000000 := by
  refine ⟨Int.mul_nonneg h0 (by omega), ?_⟩
  have : a * (k : Int) ≤ 1000000000000 * 40 := Int.mul_le_mul h1 (by omega) (by omega) (by omega)
  omega
/-! The laws' own functions. -/
/-- Some number from 0 to n - 1. -/
def SomeBelow (n : Int) (w : World) (e : Ending) (w' : World) : Prop := ∃ r : Int, 0 ≤ r ∧ r < n ∧ e = .returned (.int .i64 r) ∧ w = w'
theorem within_val (k n : Int) (w : World) (h0 : 1 ≤ n) (h1 : n ≤ 2000000000000) : SomeBelow n w (.returned (.int .i64 (wrap64 ((IntKind.u64.wrap k).tmod n)))) w := by
  have h2 : 0 ≤ IntKind.u64.wrap k := wrap_u64_nonneg k
  have h3 : (IntKind.u64.wrap k).tmod n = IntKind.u64.wrap k % n := Int.tmod_eq_emod_of_nonneg h2
  have h4 : 0 ≤ IntKind.u64.wrap k % n := Int.emod_nonneg _ (by omega)
  have h5 : IntKind.u64.wrap k % n < n := Int.emod_lt_of_pos _ (by omega)
  rw [h3]
  refine ⟨IntKind.u64.wrap k % n, h4, h5, ?_, rfl⟩
  rw [show wrap64 (IntKind.u64.wrap k % n) = IntKind.u64.wrap k % n from by unfold wrap64; omega]
set_option maxHeartbeats 400000 in
theorem within_any (k n : Int) (w : World) (h0 : 1 ≤ n) (h1 : n ≤ 2000000000000) :
    Calls Tryd.prog 13 #[.int .i64 k, .int .i64 n] w (SomeBelow n w) := by
  go_enter Tryd.func13, Tryd.ntmps13
  go_wp2
  go_ret
  exact within_val k n w h0 h1
end Go.Proofs.YtjfflnkocajkeaaDoor
