/-
  What the small functions of package cal return: leapYear, monthLength, yearStart, validDay, dayNumber, validDate, monthIndex, dateIn. Condition: the table of the months' lengths reads as the program lays it (Tab).
-/
import Derived.Test.YtjfflnkocajkeaaDoorMathB
import Derived.Test.YtjfflnkocajkeaaDoorRows
import Derived.WalkKit
import Derived.WalkSpells
import Derived.WalkLawsBesides
import Derived.Deep.QuietTactic
import Derived.BigQuiet
import Derived.Lib.Hide
import Derived.Deep.RegionHeld3
namespace Go.Proofs.YtjfflnkocajkeaaDoor
open Go.RowKit

/-- The months' lengths of a year that is no leap year, in their places. -/
def tabAt (j : Nat) : Int := Cal.dim 1601 (j + 1)
/-- The table lies in block 0. -/
def Tab (w : World) : Prop := 0 < w.heap.size ∧ ∀ j : Nat, j < 12 → w.cell? ⟨0, j, none⟩ = some (.int .i64 (tabAt j))
theorem Tab.kept {w w' : World} (h : Tab w) (k : Kept w w') : Tab w' :=
  ⟨Nat.lt_of_lt_of_le h.1 k.size, fun j hj => by rw [Below.cell k (p := ⟨0, j, none⟩) h.1]; exact h.2 j hj⟩

def leapB (y : Int) : Bool := decide (Cal.lp y = 1)

set_option maxHeartbeats 400000 in
theorem leap_any (y : Int) (w : World) (h0 : 0 ≤ y) (h1 : y ≤ 100000) :
    Calls Tryd.prog 64 #[.int .i64 y] w fun e w' => e = .returned (.bool (leapB y)) ∧ w = w' := by
  go_enter Tryd.func64, Tryd.ntmps64
  go_wp2
  all_goals go_ret
  · refine ⟨ret_bool ?_, rfl⟩
    rename_i a b
    rw [Bool.eq_iff_iff]; simp [leapB, Cal.lp, a, b]
  · refine ⟨ret_bool ?_, rfl⟩
    rename_i a b
    rw [Bool.eq_iff_iff]; simp [leapB, Cal.lp, a, b]
  · refine ⟨ret_bool ?_, rfl⟩
    rename_i a
    rw [Bool.eq_iff_iff]; simp [leapB, Cal.lp, a]

theorem dim_tab (y m : Int) (h1 : 1 ≤ m) (h2 : m ≤ 12) (h : m ≠ 2) : tabAt (m - 1).toNat = Cal.dim y m := by
  unfold tabAt
  rw [show (((m - 1).toNat : Nat) : Int) + 1 = m by omega]
  simp [Cal.dim, h]

set_option maxHeartbeats 400000 in
theorem len_any (y m : Int) (w : World) (hT : Tab w) (h0 : 0 ≤ y) (h1 : y ≤ 100000) (h2 : 1 ≤ m) (h3 : m ≤ 12) :
    Calls Tryd.prog 41 #[.int .i64 y, .int .i64 m] w fun e w' => e = .returned (.int .i64 (Cal.dim y m)) ∧ w = w' := by
  by_cases hm : m = 2
  · subst hm
    have hc : w.cell? ⟨0, 1, none⟩ = some (.int .i64 28) := hT.2 1 (by decide)
    cases hl : leapB y
    · have e : Cal.dim y 2 = 28 := by
        have := Cal.lp_01 y
        simp [leapB] at hl; simp [Cal.dim]; omega
      rw [e]
      have HL := Lib.hid hl; clear hl hT e
      go_enter Tryd.func41, Tryd.ntmps41
      go_wp2_with fail
      refine (leap_any _ _ h0 h1).mono ?_
      rintro e w' ⟨rfl, rfl⟩
      rw [HL.out]
      go_wp2
      go_ret
      exact ⟨rfl, rfl⟩
    · have e : Cal.dim y 2 = 29 := by
        simp [leapB] at hl; simp [Cal.dim, hl]
      rw [e]
      have HL := Lib.hid hl; clear hl hT e
      go_enter Tryd.func41, Tryd.ntmps41
      go_wp2_with fail
      refine (leap_any _ _ h0 h1).mono ?_
      rintro e w' ⟨rfl, rfl⟩
      rw [HL.out]
      go_wp2
      go_ret
      exact ⟨rfl, rfl⟩
  · have hc : w.cell? ⟨0, m.toNat - 1, none⟩ = some (.int .i64 (Cal.dim y m)) := by
      rw [hT.2 (m.toNat - 1) (by omega), show m.toNat - 1 = (m - 1).toNat by omega, dim_tab y m h2 h3 hm]
    have hb : (m == 2) = false := by simp [hm]
    clear hT hm
    go_enter Tryd.func41, Tryd.ntmps41
    go_wp2
    go_ret
    exact ⟨rfl, rfl⟩

set_option maxHeartbeats 400000 in
theorem ys_any (y : Int) (w : World) (h0 : 1600 ≤ y) (h1 : y ≤ 2400) :
    Calls Tryd.prog 63 #[.int .i64 y] w fun e w' => e = .returned (.int .i64 (Cal.ys y)) ∧ w = w' := by
  go_enter Tryd.func63, Tryd.ntmps63
  go_wp2
  go_ret
  exact ⟨ret_int (by unfold Cal.ys; omega), rfl⟩

def dayB (n : Int) : Bool := decide (0 ≤ n ∧ n ≤ 292193)
set_option maxHeartbeats 400000 in
theorem validDay_any (n : Int) (w : World) :
    Calls Tryd.prog 62 #[.int .i64 n] w fun e w' => e = .returned (.bool (dayB n)) ∧ w = w' := by
  go_enter Tryd.func62, Tryd.ntmps62
  go_wp2
  all_goals go_ret
  all_goals refine ⟨ret_bool ?_, rfl⟩
  all_goals unfold dayB
  all_goals rw [Bool.eq_iff_iff]; simp; try omega

/-- A date as the program holds it. -/
abbrev day3 (y m d : Int) : Value := .agg #[.int .i64 y, .int .i64 m, .int .i64 d]

/-- A box that was laid, read in a later world. -/
theorem box_later {w w' : World} {y m d : Int} {t : TypeId} (h : Kept (w.alloc (.cells #[.int .i64 y, .int .i64 m, .int .i64 d] t)) w') :
    w.heap.size < w'.heap.size ∧ w'.cell? ⟨w.heap.size, 0, none⟩ = some (.int .i64 y) ∧ w'.cell? ⟨w.heap.size, 1, none⟩ = some (.int .i64 m) ∧ w'.cell? ⟨w.heap.size, 2, none⟩ = some (.int .i64 d) := by
  have hs := h.le
  simp at hs
  refine ⟨by omega, ?_, ?_, ?_⟩
  · rw [h.rd.1 _ _ (by simp)]; simp
  · rw [h.rd.1 _ _ (by simp)]; simp
  · rw [h.rd.1 _ _ (by simp)]; simp

/-- .. and it may be written there. -/
theorem box_free {w w' : World} {y m d : Int} {t : TypeId} (h : Kept (w.alloc (.cells #[.int .i64 y, .int .i64 m, .int .i64 d] t)) w') (i : Nat) : w'.frozen? ⟨w.heap.size, i, none⟩ = false := by
  rw [h.rd.2 _ _ (by simp)]; simp

theorem Tab.alloc {w : World} (h : Tab w) (o : Obj) : Tab (w.alloc o) := h.kept ((Below.refl _ _).alloc (Nat.le_refl _) o)
theorem Tab.drewN {w : World} (h : Tab w) (n : Nat) : Tab (w.drewN n) := h.kept (below_drewN (Below.refl _ _) n)
theorem Tab.drew {w : World} (h : Tab w) : Tab w.drew := h.kept (Below.refl _ _).drew

set_option maxHeartbeats 400000 in
theorem dayNumber_any (y m d : Int) (w : World) (hT : Tab w) (h0 : 1600 ≤ y) (h1 : y ≤ 2399) (h2 : 1 ≤ m) (h3 : m ≤ 12) (h4 : 0 ≤ d) (h5 : d ≤ 1000) :
    Calls Tryd.prog 42 #[day3 y m d] w fun e w' => e = .returned (.int .i64 (Cal.num y m d)) ∧ Kept w w' := by
  have hb := Cal.ys_bd y h0 (by omega)
  go_enter Tryd.func42, Tryd.ntmps42
  go_wp2_with fail
  refine (ys_any _ _ h0 (by omega)).mono ?_
  rintro e w' ⟨rfl, rfl⟩
  go_wp2
  go_loop [3, 4] (fun n i => ∃ k : Int, 1 ≤ k ∧ k ≤ m ∧ i = .int .i64 k ∧ n = .int .i64 (Cal.ys y + Cal.cum y k)) (fun _ i => (12 - intOf i).toNat)
  case atStart => exact ⟨1, by omega, by omega, rfl, by rw [Cal.cum_one]; simp⟩
  case round =>
    obtain ⟨k, hk1, hk2, rfl, rfl⟩ := hrel
    have cb := Cal.cum_bd y k hk1 (by omega)
    have db := Cal.dim_bd y k
    by_cases hlt : k < m
    · have HC := Lib.hid (Cal.cum_succ y k hk1 (by omega))
      go_wp2_with fail
      refine (len_any _ _ _ (hT.alloc _) (by omega) (by omega) (by omega) (by omega)).mono ?_
      rintro e w' ⟨rfl, rfl⟩
      go_wp2
      go_round
      case rel => exact ⟨k + 1, by omega, by omega, rfl, by rw [HC.out]; go_num⟩
      case measure => simp [intOf]; omega
    · obtain rfl : k = m := by omega
      go_wp2
      go_ret
      exact ⟨ret_int (by unfold Cal.num; omega), (Below.refl _ _).alloc (Nat.le_refl _) _⟩

end Go.Proofs.YtjfflnkocajkeaaDoor
