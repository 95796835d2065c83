/-
  What the functions of package cal return: Of, Date, Weekday, Add, Last, Months. Condition: the table of the months' lengths reads as the program lays it (Tab).
-/
import Derived.Test.YtjfflnkocajkeaaDoorWalkA
namespace Go.Proofs.YtjfflnkocajkeaaDoor
open Go.RowKit

theorem date_eq {y m d n : Int} (h : Cal.Vld y m d) (e : Cal.num y m d = n) : day3 y m d = day3 (Cal.Y n) (Cal.M n) (Cal.D n) := by
  obtain ⟨a, b, c⟩ := Cal.back y m d h
  subst e
  rw [a, b, c]

set_option maxHeartbeats 400000 in
theorem date_no (n : Int) (w : World) (h : dayB n = false) :
    Calls Tryd.prog 40 #[.int .i64 n] w fun e w' => e = .returned (.tuple #[day3 0 0 0, .int .i64 1]) ∧ Kept w w' := by
  have H := Lib.hid h; clear h
  go_enter Tryd.func40, Tryd.ntmps40
  go_wp2_with fail
  refine (validDay_any _ _).mono ?_
  rintro e w' ⟨rfl, rfl⟩
  rw [H.out]
  go_wp2
  exact bodyPost_ret (v := .tuple #[day3 0 0 0, .int .i64 1]) (by simp [results, Tryd.results40, go_sem]) rfl ⟨rfl, (Below.refl _ _).alloc (Nat.le_refl _) _⟩

set_option maxHeartbeats 1000000 in
theorem date_yes (n : Int) (w : World) (hT : Tab w) (h0 : 0 ≤ n) (h1 : n ≤ 292193) :
    Calls Tryd.prog 40 #[.int .i64 n] w fun e w' => e = .returned (.tuple #[day3 (Cal.Y n) (Cal.M n) (Cal.D n), .int .i64 0]) ∧ Kept w w' := by
  have H := Lib.hid (show dayB n = true by simp [dayB, h0, h1])
  have g0 := Cal.ys_guess n h0 h1
  go_enter Tryd.func40, Tryd.ntmps40
  go_wp2_with fail
  refine (validDay_any _ _).mono ?_
  rintro e w' ⟨rfl, rfl⟩
  rw [H.out]
  clear H
  go_wp2
  go_loop [4] (fun t => ∃ y : Int, 1600 ≤ y ∧ y ≤ 2399 ∧ Cal.ys y ≤ n ∧ t = .int .i64 y) (fun t => (2400 - intOf t).toNat)
  case atStart => exact ⟨_, by omega, by omega, g0, rfl⟩
  case round =>
    obtain ⟨y, hy1, hy2, hy3, rfl⟩ := hrel
    clear g0
    have hb := Cal.ys_bd (y + 1) (by omega) (by omega)
    have hb0 := Cal.ys_bd y (by omega) (by omega)
    by_cases hc : Cal.ys (y + 1) ≤ n
    · have hlt : y < 2399 := by
        by_cases e : y = 2399
        · subst e; have := Cal.ys_2400; have h3 : Cal.ys (2399 + 1) = 292194 := this; omega
        · omega
      go_wp2_with fail
      refine (ys_any _ _ (by omega) (by omega)).mono ?_
      rintro e w' ⟨rfl, rfl⟩
      go_wp2
      go_round
      case rel => exact ⟨y + 1, by omega, by omega, hc, rfl⟩
      case measure => simp [intOf]; omega
    · have HS := Lib.hid (Cal.ys_succ y)
      have hl := Cal.lp_01 y
      go_wp2_with fail
      refine (ys_any _ _ (by omega) (by omega)).mono ?_
      rintro e w' ⟨rfl, rfl⟩
      go_wp2_with fail
      refine (ys_any _ _ (by omega) (by omega)).mono ?_
      rintro e w' ⟨rfl, rfl⟩
      go_wp2
      go_loop [5, 6] (fun r k => ∃ m : Int, 1 ≤ m ∧ m ≤ 12 ∧ k = .int .i64 m ∧ 0 ≤ n - Cal.ys y - Cal.cum y m ∧ r = .int .i64 (n - Cal.ys y - Cal.cum y m)) (fun _ k => (12 - intOf k).toNat)
      case atStart => exact ⟨1, by omega, by omega, rfl, by rw [Cal.cum_one]; omega, by rw [Cal.cum_one]; simp⟩
      case round =>
        obtain ⟨m, hm1, hm2, rfl, hr, rfl⟩ := hrel
        have cb := Cal.cum_bd y m hm1 (by omega)
        have db := Cal.dim_bd y m
        have HC := Lib.hid (Cal.cum_succ y m hm1 hm2)
        by_cases hd : Cal.dim y m ≤ n - Cal.ys y - Cal.cum y m
        · have hm : m < 12 := by
            by_cases e : m = 12
            · subst e; have := HC.out; have h13 := Cal.cum_13 y; rw [show (12 + 1 : Int) = 13 from rfl, h13] at this; have := HS.out; omega
            · omega
          go_wp2_with fail
          refine (len_any _ _ _ (hT.alloc _) (by omega) (by omega) (by omega) (by omega)).mono ?_
          rintro e w' ⟨rfl, rfl⟩
          go_wp2_with fail
          refine (len_any _ _ _ (hT.alloc _) (by omega) (by omega) (by omega) (by omega)).mono ?_
          rintro e w' ⟨rfl, rfl⟩
          go_wp2
          go_round
          case rel => exact ⟨m + 1, by omega, by omega, rfl, by rw [HC.out]; omega, by rw [HC.out]; go_num⟩
          case measure => simp [intOf]; omega
        · go_wp2_with fail
          refine (len_any _ _ _ (hT.alloc _) (by omega) (by omega) (by omega) (by omega)).mono ?_
          rintro e w' ⟨rfl, rfl⟩
          go_wp2
          refine bodyPost_ret (v := .tuple #[day3 y m (n - Cal.ys y - Cal.cum y m + 1), .int .i64 0]) (by simp [results, Tryd.results40, go_sem]) rfl ⟨?_, (Below.refl _ _).alloc (Nat.le_refl _) _⟩
          rw [date_eq (y := y) (m := m) (d := n - Cal.ys y - Cal.cum y m + 1) (n := n) ⟨hy1, hy2, hm1, hm2, by omega, by omega⟩ (by unfold Cal.num; omega)]

def ofV (y m d : Int) : Int := if Cal.vldB y m d = true then Cal.num y m d else 0
def ofE (y m d : Int) : Int := if Cal.vldB y m d = true then 0 else 1

set_option maxHeartbeats 400000 in
theorem last_no (n : Int) (w : World) (h : dayB n = false) :
    Calls Tryd.prog 18 #[.int .i64 n] w fun e w' => e = .returned (.tuple #[.int .i64 0, .int .i64 1]) ∧ Kept w w' := by
  have H := Lib.hid h; clear h
  go_enter Tryd.func18, Tryd.ntmps18
  go_wp2_with fail
  refine (date_no _ _ H.out).mono ?_
  rintro e w' ⟨rfl, hk⟩
  go_wp2
  go_ret2
  exact ⟨rfl, hk.alloc _⟩

set_option maxHeartbeats 400000 in
theorem last_yes (n : Int) (w : World) (hT : Tab w) (h0 : 0 ≤ n) (h1 : n ≤ 292193) :
    Calls Tryd.prog 18 #[.int .i64 n] w fun e w' => e = .returned (.tuple #[.int .i64 (lastV n), .int .i64 0]) ∧ Kept w w' := by
  have hd := dbd n h0 h1
  go_enter Tryd.func18, Tryd.ntmps18
  go_wp2_with fail
  refine (date_yes _ _ hT h0 h1).mono ?_
  rintro e w1 ⟨rfl, hk⟩
  go_wp2_with fail
  refine (len_any _ _ _ ((hT.kept hk).alloc _) (by omega) (by omega) (by omega) (by omega)).mono ?_
  rintro e w2 ⟨rfl, rfl⟩
  go_wp2_with fail
  refine (dayNumber_any _ _ _ _ ((hT.kept hk).alloc _) (by omega) (by omega) (by omega) (by omega) (by omega) (by omega)).mono ?_
  rintro e w2 ⟨rfl, hk2⟩
  go_wp2
  go_ret2
  exact ⟨rfl, (hk.alloc _).trans hk2⟩

end Go.Proofs.YtjfflnkocajkeaaDoor
