/-
  What the small functions of package split and of the laws return: validAmount, badWeight, size, signed, Even, sum, Within. No condition but those that each theorem names.
-/
import Derived.Test.YtdgiljndoeldcaaSBase
import Derived.Test.YtdgiljndoeldcaaSMath
namespace Go.Proofs.Ytdgiljndoeldcaa
open Go.RowKit

def amB (a : Int) : Bool := decide (-1000000000000 ≤ a ∧ a ≤ 1000000000000)
theorem am_iff (a : Int) : amB a = true ↔ (-1000000000000 ≤ a ∧ a ≤ 1000000000000) := by unfold amB; exact decide_eq_true_iff
/-- signed: the parts with the sign of the amount. -/
def Signed (B : World) (p n : Nat) (amount : Int) (g : Nat → Int) (e : Ending) (w' : World) : Prop :=
  e = .returned (.slice (some ⟨p, 0, none⟩) n n) ∧ Own w' p (tab n fun i => sg amount (g i)) ∧ Kept B w'
/-- Even: the parts in a new row. -/
def EvenPost (w : World) (amount : Int) (n : Nat) (e : Ending) (w' : World) : Prop :=
  ∃ p : Nat, w.heap.size ≤ p ∧ e = .returned (.tuple #[.slice (some ⟨p, 0, none⟩) n n, .int .i64 0]) ∧ Own w' p (tab n (evV amount n)) ∧ Kept w w'
theorem mulk_bd (a : Int) (k : Nat) (h0 : 0 ≤ a) (h1 : a ≤ 1000000000000) (hk : k ≤ 40) : 0 ≤ a * (k : Int) ∧ a * (k : Int) ≤ 40000000000000 := by
  refine ⟨Int.mul_nonneg h0 (by omega), ?_⟩
  have : a * (k : Int) ≤ 1000000000000 * 40 := Int.mul_le_mul h1 (by omega) (by omega) (by omega)
  omega
/-! The laws' own functions. -/
/-- Some number from 0 to n - 1. -/
def SomeBelow (n : Int) (w : World) (e : Ending) (w' : World) : Prop := ∃ r : Int, 0 ≤ r ∧ r < n ∧ e = .returned (.int .i64 r) ∧ w = w'
theorem within_val (k n : Int) (w : World) (h0 : 1 ≤ n) (h1 : n ≤ 2000000000000) : SomeBelow n w (.returned (.int .i64 (wrap64 ((IntKind.u64.wrap k).tmod n)))) w := by
  have h2 : 0 ≤ IntKind.u64.wrap k := wrap_u64_nonneg k
  have h3 : (IntKind.u64.wrap k).tmod n = IntKind.u64.wrap k % n := Int.tmod_eq_emod_of_nonneg h2
  have h4 : 0 ≤ IntKind.u64.wrap k % n := Int.emod_nonneg _ (by omega)
  have h5 : IntKind.u64.wrap k % n < n := Int.emod_lt_of_pos _ (by omega)
  rw [h3]
  refine ⟨IntKind.u64.wrap k % n, h4, h5, ?_, rfl⟩
  rw [show wrap64 (IntKind.u64.wrap k % n) = IntKind.u64.wrap k % n from by unfold wrap64; omega]
set_option maxHeartbeats 400000 in
theorem within_any (k n : Int) (w : World) (h0 : 1 ≤ n) (h1 : n ≤ 2000000000000) :
    Calls Try.prog 27 #[.int .i64 k, .int .i64 n] w (SomeBelow n w) := by
  go_enter Try.func27, Try.ntmps27
  go_wp2
  go_ret
  exact within_val k n w h0 h1
set_option maxHeartbeats 1000000 in
theorem sum_any (g : Nat → Int) (p off n cap : Nat) (w : World) (hn : n ≤ 1000) (hg : ∀ j, j < n → -2000000000000 ≤ g j ∧ g j ≤ 2000000000000) (hR : Rd w p off (tab n g)) :
    Calls Try.prog 28 #[.slice (some ⟨p, off, none⟩) n cap] w fun e w' => e = .returned (.int .i64 (sumTo g n)) ∧ w = w' := by
  have HG := Lib.hid hg
  clear hg
  have HR := Lib.hid hR.cell
  have lt := hR.lt
  clear hR
  go_enter Try.func28, Try.ntmps28
  go_wp2
  go_loop [3, 8] (fun s i => ∃ k : Nat, k ≤ n ∧ i = .int .i64 k ∧ s = .int .i64 (sumTo g k)) (fun _ i => (n - intOf i).toNat)
  case atStart => exact ⟨0, by omega, rfl, rfl⟩
  case round =>
    obtain ⟨k, hk, rfl, rfl⟩ := hrel
    by_cases hlt : k < n
    · have hc := HR.out k (by rw [tab_len]; exact hlt)
      rw [tab_get] at hc
      have gb := HG.out k hlt
      have sb := sumTo_bd g 2000000000000 k (fun j hj => HG.out j (by omega))
      have S := Lib.hid (show sumTo g (k + 1) = sumTo g k + g k from rfl)
      go_wp2
      go_round
      case rel => exact ⟨k + 1, by omega, by go_num, by rw [S.out]⟩
      case measure => simp [intOf]; omega
    · obtain rfl : k = n := by omega
      clear hlt
      go_wp2
      go_ret
      exact ⟨rfl, rfl⟩

end Go.Proofs.Ytdgiljndoeldcaa
