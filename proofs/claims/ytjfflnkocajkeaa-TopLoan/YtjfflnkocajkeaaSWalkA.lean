/-
  What the small functions of package split and of the laws return: validAmount, badWeight, size, signed, Even, sum, Within. No condition but those that each theorem names.
-/
import Derived.Test.YtjfflnkocajkeaaSMath
namespace Go.Proofs.Ytjfflnkocajkeaa
open Go.RowKit

def amB (a : Int) : Bool := decide (-1000000000000 ≤ a ∧ a ≤ 1000000000000)
theorem am_iff (a : Int) : amB a = true ↔ (-1000000000000 ≤ a ∧ a ≤ 1000000000000) := by unfold amB; exact decide_eq_true_iff
set_option maxHeartbeats 400000 in
theorem valid_any (a : Int) (w : World) :
    Calls Try.prog 74 #[.int .i64 a] w fun e w' => e = .returned (.bool (amB a)) ∧ w = w' := by
  have E := Lib.hid (show amB a = decide (-1000000000000 ≤ a ∧ a ≤ 1000000000000) from rfl)
  generalize amB a = B at *
  by_cases h : -1000000000000 ≤ a
  · by_cases h2 : a ≤ 1000000000000
    · go_enter Try.func74, Try.ntmps74
      go_wp2
      go_ret
      exact ⟨ret_bool (by rw [E.out]; simp [h, h2]), rfl⟩
    · have hb : decide (a ≤ 1000000000000) = false := by simpa using h2
      have H := Lib.hid h2
      clear h2
      go_enter Try.func74, Try.ntmps74
      go_wp2
      go_ret
      exact ⟨ret_bool (by rw [E.out]; have := H.out; simp; omega), rfl⟩
  · have hb : decide (-1000000000000 ≤ a) = false := by simpa using h
    have H := Lib.hid h
    clear h
    go_enter Try.func74, Try.ntmps74
    go_wp2
    go_ret
    exact ⟨ret_bool (by rw [E.out]; have := H.out; simp; omega), rfl⟩
set_option maxHeartbeats 400000 in
theorem size_any (n : Int) (w : World) (h0 : -4000000000000000000 ≤ n) (h1 : n ≤ 4000000000000000000) :
    Calls Try.prog 79 #[.int .i64 n] w fun e w' => e = .returned (.int .i64 n.natAbs) ∧ w = w' := by
  rcases (show n < 0 ∨ n = 0 ∨ 0 < n by omega) with h | h | h
  · go_enter Try.func79, Try.ntmps79
    go_wp2
    all_goals go_ret
    all_goals exact ⟨ret_int (by omega), rfl⟩
  · subst h
    go_enter Try.func79, Try.ntmps79
    go_wp2
    all_goals go_ret
    all_goals exact ⟨ret_int (by omega), rfl⟩
  · go_enter Try.func79, Try.ntmps79
    go_wp2
    all_goals go_ret
    all_goals exact ⟨ret_int (by omega), rfl⟩

/-- signed: the parts with the sign of the amount. -/
def Signed (B : World) (p n : Nat) (amount : Int) (g : Nat → Int) (e : Ending) (w' : World) : Prop :=
  e = .returned (.slice (some ⟨p, 0, none⟩) n n) ∧ Own w' p (tab n fun i => sg amount (g i)) ∧ Kept B w'
set_option maxHeartbeats 1000000 in
theorem signed_any (amount : Int) (p n : Nat) (g : Nat → Int) (B w : World) (hn : n ≤ 1000) (hg : ∀ j, j < n → -4000000000000000000 ≤ g j ∧ g j ≤ 4000000000000000000)
    (hO : Own w p (tab n g)) (hp : B.heap.size ≤ p) (hK : Kept B w) :
    Calls Try.prog 80 #[.int .i64 amount, .slice (some ⟨p, 0, none⟩) n n] w (Signed B p n amount g) := by
  have HG := Lib.hid hg
  clear hg
  by_cases ha : amount < 0
  · go_enter Try.func80, Try.ntmps80
    go_wp2
    go_loopw [10] (fun i wr => ∃ k : Nat, k ≤ n ∧ i = .int .i64 k ∧ Own wr p (tab n (mix (fun i => -(g i)) g k)) ∧ Kept B wr) (fun i _ => (n - intOf i).toNat)
    case atStart => exact ⟨0, by omega, rfl, by rw [mix_zero]; exact hO, hK⟩
    case round =>
      obtain ⟨k, hk, rfl, hOr, hKr⟩ := hrel
      by_cases hlt : k < n
      · have hc := hOr.cell k (by rw [tab_len]; exact hlt)
        have hf := hOr.free k (by rw [tab_len]; exact hlt)
        rw [tab_get, mix_at] at hc
        have gb := HG.out k hlt
        go_wp2
        go_roundw
        case rel =>
          refine ⟨k + 1, by omega, by go_num, ?_, hKr.setAt hp _⟩
          have := hOr.set k (-(g k)) (by rw [tab_len]; exact hlt)
          rw [tab_set, mix_set (fun i => -(g i)) g k] at this
          exact this
        case measure => simp [intOf]; omega
      · obtain rfl : k = n := by omega
        clear hlt
        go_wp2
        go_ret
        refine ⟨rfl, ?_, hKr⟩
        rw [mix_end] at hOr
        rw [tab_congr k (h := fun i => -(g i)) (fun j _ => by simp [sg, ha])]
        exact hOr
  · have hb : decide (amount < 0) = false := by simpa using ha
    have HA := Lib.hid ha
    clear ha
    go_enter Try.func80, Try.ntmps80
    go_wp2
    go_ret
    refine ⟨rfl, ?_, hK⟩
    rw [tab_congr n (h := g) (fun j _ => by unfold sg; rw [if_neg (Int.not_lt.2 HA.out)])]
    exact hO

/-- Even: the parts in a new row. -/
def EvenPost (w : World) (amount : Int) (n : Nat) (e : Ending) (w' : World) : Prop :=
  ∃ p : Nat, w.heap.size ≤ p ∧ e = .returned (.tuple #[.slice (some ⟨p, 0, none⟩) n n, .int .i64 0]) ∧ Own w' p (tab n (evV amount n)) ∧ Kept w w'
theorem mulk_bd (a : Int) (k : Nat) (h0 : 0 ≤ a) (h1 : a ≤ 1000000000000) (hk : k ≤ 40) : 0 ≤ a * (k : Int) ∧ a * (k : Int) ≤ 40000000000000 := by
  refine ⟨Int.mul_nonneg h0 (by omega), ?_⟩
  have : a * (k : Int) ≤ 1000000000000 * 40 := Int.mul_le_mul h1 (by omega) (by omega) (by omega)
  omega
/-! The laws' own functions. -/
/-- Some number from 0 to n - 1. -/
def SomeBelow (n : Int) (w : World) (e : Ending) (w' : World) : Prop := ∃ r : Int, 0 ≤ r ∧ r < n ∧ e = .returned (.int .i64 r) ∧ w = w'
theorem within_val (k n : Int) (w : World) (h0 : 1 ≤ n) (h1 : n ≤ 2000000000000) : SomeBelow n w (.returned (.int .i64 (wrap64 ((IntKind.u64.wrap k).tmod n)))) w := by
  have h2 : 0 ≤ IntKind.u64.wrap k := wrap_u64_nonneg k
  have h3 : (IntKind.u64.wrap k).tmod n = IntKind.u64.wrap k % n := Int.tmod_eq_emod_of_nonneg h2
  have h4 : 0 ≤ IntKind.u64.wrap k % n := Int.emod_nonneg _ (by omega)
  have h5 : IntKind.u64.wrap k % n < n := Int.emod_lt_of_pos _ (by omega)
  rw [h3]
  refine ⟨IntKind.u64.wrap k % n, h4, h5, ?_, rfl⟩
  rw [show wrap64 (IntKind.u64.wrap k % n) = IntKind.u64.wrap k % n from by unfold wrap64; omega]
set_option maxHeartbeats 400000 in
theorem within_any (k n : Int) (w : World) (h0 : 1 ≤ n) (h1 : n ≤ 2000000000000) :
    Calls Try.prog 15 #[.int .i64 k, .int .i64 n] w (SomeBelow n w) := by
  go_enter Try.func15, Try.ntmps15
  go_wp2
  go_ret
  exact within_val k n w h0 h1
end Go.Proofs.Ytjfflnkocajkeaa
