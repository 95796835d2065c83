/-
  What the reference's Add, Months and Euro return. No condition but the bounds that each theorem names.
-/
import Derived.Test.YtcfcbglnmhoknabDoorWalkE
namespace Go.Proofs.YtcfcbglnmhoknabDoor
open Go.RowKit

/-! Months by their first days. -/
/-- The first day of a month. -/
def ms (i : Int) : Int := Cal.ys (1600 + i / 12) + Cal.cum (1600 + i / 12) (i % 12 + 1)
theorem ms_succ (i : Int) : ms (i + 1) = ms i + Cal.dim (1600 + i / 12) (i % 12 + 1) := by
  have s := Cal.cum_succ (1600 + i / 12) (i % 12 + 1) (by omega) (by omega)
  unfold ms
  by_cases c : i % 12 = 11
  · have e1 : 1600 + (i + 1) / 12 = 1600 + i / 12 + 1 := by omega
    have e2 : (i + 1) % 12 + 1 = 1 := by omega
    rw [e1, e2, Cal.cum_one, Cal.ys_succ]
    rw [c, show (11 + 1 + 1 : Int) = 13 from rfl, Cal.cum_13] at s
    rw [c]; omega
  · have e1 : 1600 + (i + 1) / 12 = 1600 + i / 12 := by omega
    have e2 : (i + 1) % 12 + 1 = i % 12 + 1 + 1 := by omega
    rw [e1, e2]; omega
theorem ms_le (i : Int) (j : Nat) : ms (i + j) ≤ ms i + 31 * j := by
  induction j with
  | zero => simp
  | succ j ih =>
    have s := ms_succ (i + j)
    have b := Cal.dim_bd (1600 + (i + j) / 12) ((i + j) % 12 + 1)
    rw [show i + ((j + 1 : Nat) : Int) = i + j + 1 by omega]; omega
theorem ms_9600 : ms 9600 = 292194 := by decide
theorem ms_day (n : Int) (n0 : 0 ≤ n) (n1 : n ≤ 292193) : n = ms (idx n 0) + Cal.D n - 1 := by
  have e := (Cal.date n n0 n1).2
  obtain ⟨a, b⟩ := idx_y n n0 n1
  unfold ms; rw [a, b]; unfold Cal.num at e; omega
theorem add_days (n : Int) (k : Nat) (n0 : 0 ≤ n) (n1 : n ≤ 292193) : addV n k ≤ n + 31 * k := by
  have a := ms_day n n0 n1
  have b := ms_le (idx n 0) k
  have c := addD_le n k
  have d := idx_add n k
  have e : addV n k = ms (idx n k) + addD n k - 1 := by unfold addV ms addD Cal.num; omega
  rw [e, d]; omega
/-- The reference's first guess is no more than the months. -/
theorem guess_le (a b : Int) (a0 : 0 ≤ a) (hab : a ≤ b) (b1 : b ≤ 292193) : max 0 ((b - a) / 31 - 1) ≤ monV a b := by
  have mb := mon_bd a b a0 hab b1
  by_cases c : (b - a) / 31 - 1 ≤ 0
  · omega
  · obtain ⟨k, hk⟩ := Int.eq_ofNat_of_zero_le (show 0 ≤ (b - a) / 31 - 1 by omega)
    rw [show max 0 ((b - a) / 31 - 1) = (k : Int) by omega]
    rw [mon_le a b k a0 hab b1 (by omega)]
    have d := add_days a k a0 (by omega)
    refine ⟨?_, by omega⟩
    have i := idx_bd a a0 (by omega)
    have j := idx_add a k
    by_cases z : idx a k < 9600
    · exact z
    · exfalso
      obtain ⟨t, ht⟩ := Int.eq_ofNat_of_zero_le (show 0 ≤ 9600 - idx a 0 by omega)
      have e := ms_le (idx a 0) t
      have f := ms_day a a0 (by omega)
      have g := dbd a a0 (by omega)
      rw [show idx a 0 + (t : Int) = 9600 by omega, ms_9600] at e
      omega

/-- What the reference's Add returns: -1 where it is not in these years. -/
def raddV (n k : Int) : Int := if 0 ≤ idx n k ∧ idx n k < 9600 then addV n k else -1
/-- What is so of the reference's date, so many months still to go. -/
def Go1 (n k y m j : Int) : Prop := 1 ≤ m ∧ m ≤ 12 ∧ 12 * y + m + j = 12 * Cal.Y n + Cal.M n + k ∧ (j = k ∨ 0 ≤ j ∧ j ≤ k ∨ j ≤ 0 ∧ k ≤ j)

set_option maxHeartbeats 4000000 in
theorem radd_any (n k : Int) (w : World) (h0 : 0 ≤ n) (h1 : n ≤ 292193) (h2 : -10000 ≤ k) (h3 : k ≤ 10000) :
    Calls Tryd.prog 17 #[.int .i64 n, .int .i64 k] w fun e w' => e = .returned (.int .i64 (raddV n k)) ∧ Kept w w' := by
  have hd := dbd n h0 h1
  go_enter Tryd.func17, Tryd.ntmps17
  go_wp2_with fail
  refine (rdate_any _ _ h0 h1).mono ?_
  rintro e w1 ⟨rfl, hk1⟩
  go_wp2
  go_loopw [1] (fun t wr => ∃ y m j : Int, Go1 n k y m j ∧ t = .int .i64 j ∧ wr = w1.alloc (.cells #[.int .i64 y, .int .i64 m, .int .i64 (Cal.D n)] 31)) (fun t _ => (intOf t).toNat)
  case atStart => exact ⟨Cal.Y n, Cal.M n, k, ⟨by omega, by omega, rfl, .inl rfl⟩, rfl, rfl⟩
  case round =>
    obtain ⟨y, m, j, hG, rfl, rfl⟩ := hrel
    have G := Lib.hid hG
    obtain ⟨g1, g2, g3, g4⟩ := hG
    have b1 : -100000 ≤ y := by omega
    have b2 : y ≤ 100000 := by omega
    have b3 : -100000 ≤ j := by omega
    have b4 : j ≤ 100000 := by omega
    clear g3 g4
    by_cases hj : 0 < j
    · by_cases hm : m = 12
      · subst hm
        go_wp2
        go_roundw
        case rel => exact ⟨y + 1, 1, j - 1, by have := G.out; unfold Go1 at *; omega, rfl, rfl⟩
        case measure => simp [intOf]; omega
      · have hm2 : m < 12 := by omega
        go_wp2
        go_roundw
        case rel => exact ⟨y, m + 1, j - 1, by have := G.out; unfold Go1 at *; omega, rfl, rfl⟩
        case measure => simp [intOf]; omega
    · have hj0 : j ≤ 0 := by omega
      clear hj
      go_wp2
      go_loopw [1] (fun t wr => ∃ y m j : Int, Go1 n k y m j ∧ j ≤ 0 ∧ t = .int .i64 j ∧ wr = w1.alloc (.cells #[.int .i64 y, .int .i64 m, .int .i64 (Cal.D n)] 31)) (fun t _ => (-(intOf t)).toNat)
      case atStart => exact ⟨y, m, j, G.out, hj0, rfl, rfl⟩
      case round =>
        clear g1 g2 b1 b2 b3 b4 G hj0
        obtain ⟨y, m, j, hG, hj, rfl, rfl⟩ := hrel
        have G := Lib.hid hG
        obtain ⟨g1, g2, g3, g4⟩ := hG
        have b1 : -100000 ≤ y := by omega
        have b2 : y ≤ 100000 := by omega
        have b3 : -100000 ≤ j := by omega
        clear g3 g4
        by_cases hj2 : j < 0
        · by_cases hm : m = 1
          · subst hm
            go_wp2
            go_roundw
            case rel => exact ⟨y - 1, 12, j + 1, by have := G.out; unfold Go1 at *; omega, by omega, rfl, rfl⟩
            case measure => simp [intOf]; omega
          · have hm2 : 1 < m := by omega
            go_wp2
            go_roundw
            case rel => exact ⟨y, m - 1, j + 1, by have := G.out; unfold Go1 at *; omega, by omega, rfl, rfl⟩
            case measure => simp [intOf]; omega
        · obtain rfl : j = 0 := by omega
          have hi : idx n k = (y - 1600) * 12 + m - 1 := by have := G.out; unfold Go1 idx at *; omega
          have HI := Lib.hid hi
          by_cases hy : 1600 ≤ y ∧ y ≤ 2399
          · have e : raddV n k = Cal.num y m (min (Cal.D n) (Cal.dim y m)) := by
              unfold raddV
              rw [if_pos (by omega)]
              unfold addV
              rw [show 1600 + idx n k / 12 = y by omega, show idx n k % 12 + 1 = m by omega]
            have HE := Lib.hid e
            have HB := Lib.hid (inB_true hy.1 hy.2)
            have db := Cal.dim_bd y m
            clear e hi
            go_wp2_with fail
            refine (rwithin_any _ _ _ _).mono ?_
            rintro e w2 ⟨rfl, rfl⟩
            rw [HB.out]
            go_wp2_with fail
            go_quiet (first | (go_at_call 43; exact quiet_same (rlong_any _ _ _ (by omega) (by omega))) | (go_at_call 12; exact quiet_same (julian_any _ _ _ _ (by omega) (by omega) (by omega) (by omega) (by omega) (by omega))))
            go_wp2
            all_goals go_ret
            · exact ⟨ret_int (by rw [HE.out, show min (Cal.D n) (Cal.dim y m) = Cal.dim y m by omega]), (hk1.alloc _).drewN _⟩
            · exact ⟨ret_int (by rw [HE.out, show min (Cal.D n) (Cal.dim y m) = Cal.D n by omega]), (hk1.alloc _).drewN _⟩
          · have e : raddV n k = -1 := by
              unfold raddV
              rw [if_neg (by omega)]
            have HE := Lib.hid e
            have HB := Lib.hid (inB_false hy)
            clear e hi hy
            go_wp2_with fail
            refine (rwithin_any _ _ _ _).mono ?_
            rintro e w2 ⟨rfl, rfl⟩
            rw [HB.out]
            go_wp2
            go_ret
            exact ⟨ret_int HE.out.symm, hk1.alloc _⟩

end Go.Proofs.YtcfcbglnmhoknabDoor
