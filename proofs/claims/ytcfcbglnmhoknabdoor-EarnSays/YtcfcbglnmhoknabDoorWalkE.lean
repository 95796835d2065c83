/-
  What the reference's functions return: within, Day, Long, Julian, Of, Date, Last. No condition but the bounds that each theorem names.
-/
import Derived.Test.YtcfcbglnmhoknabDoorEWalkB
namespace Go.Proofs.YtcfcbglnmhoknabDoor
open Go.RowKit

theorem inB_true {x a b : Int} (h : a ≤ x) (k : x ≤ b) : inB x a b = true := by unfold inB; exact decide_eq_true ⟨h, k⟩
theorem inB_false {x a b : Int} (h : ¬ (a ≤ x ∧ x ≤ b)) : inB x a b = false := by unfold inB; exact decide_eq_false h

set_option maxHeartbeats 400000 in
theorem rday_any (n : Int) (w : World) :
    Calls Tryd.prog 9 #[.int .i64 n] w fun e w' => e = .returned (.bool (dayB n)) ∧ w = w' := by
  go_enter Tryd.func9, Tryd.ntmps9
  go_wp2_with fail
  refine (rwithin_any _ _ _ _).mono ?_
  rintro e w' ⟨rfl, rfl⟩
  go_wp2
  go_ret
  exact ⟨rfl, rfl⟩

set_option maxHeartbeats 1000000 in
theorem rlong_any (y m : Int) (w : World) (h0 : 0 ≤ y) (h1 : y ≤ 100000) :
    Calls Tryd.prog 43 #[.int .i64 y, .int .i64 m] w fun e w' => e = .returned (.int .i64 (Cal.dim y m)) ∧ w = w' := by
  by_cases c : m = 4 ∨ m = 6 ∨ m = 9 ∨ m = 11
  · rcases c with rfl | rfl | rfl | rfl
    · rw [show Cal.dim y 4 = 30 by simp [Cal.dim]]
      clear h0 h1
      go_enter Tryd.func43, Tryd.ntmps43
      go_wp2
      go_ret
      exact ⟨rfl, rfl⟩
    · rw [show Cal.dim y 6 = 30 by simp [Cal.dim]]
      clear h0 h1
      go_enter Tryd.func43, Tryd.ntmps43
      go_wp2
      go_ret
      exact ⟨rfl, rfl⟩
    · rw [show Cal.dim y 9 = 30 by simp [Cal.dim]]
      clear h0 h1
      go_enter Tryd.func43, Tryd.ntmps43
      go_wp2
      go_ret
      exact ⟨rfl, rfl⟩
    · rw [show Cal.dim y 11 = 30 by simp [Cal.dim]]
      clear h0 h1
      go_enter Tryd.func43, Tryd.ntmps43
      go_wp2
      go_ret
      exact ⟨rfl, rfl⟩
  · by_cases c2 : m = 2
    · subst c2
      have e : Cal.dim y 2 = 28 + Cal.lp y := by simp [Cal.dim]
      rw [e]
      clear e c
      by_cases a : y % 400 = 0
      · have e : Cal.lp y = 1 := by unfold Cal.lp; rw [if_pos (by omega)]
        rw [e]
        have ab : (y % 400 == 0) = true := by rw [beq_iff_eq]; exact a
        clear a e
        go_enter Tryd.func43, Tryd.ntmps43
        go_wp2
        go_ret
        exact ⟨rfl, rfl⟩
      · have ab : (y % 400 == 0) = false := by rw [beq_eq_false_iff_ne]; exact a
        by_cases b : y % 4 = 0
        · have bb : (y % 4 == 0) = true := by rw [beq_iff_eq]; exact b
          by_cases d : 0 < y % 100
          · have e : Cal.lp y = 1 := by unfold Cal.lp; rw [if_pos (by omega)]
            rw [e]
            clear a b e
            go_enter Tryd.func43, Tryd.ntmps43
            go_wp2
            go_ret
            exact ⟨rfl, rfl⟩
          · have e : Cal.lp y = 0 := by unfold Cal.lp; rw [if_neg (by omega)]
            rw [e]
            clear a b e
            go_enter Tryd.func43, Tryd.ntmps43
            go_wp2
            go_ret
            exact ⟨rfl, rfl⟩
        · have bb : (y % 4 == 0) = false := by rw [beq_eq_false_iff_ne]; exact b
          have e : Cal.lp y = 0 := by unfold Cal.lp; rw [if_neg (by omega)]
          rw [e]
          clear a b e
          go_enter Tryd.func43, Tryd.ntmps43
          go_wp2
          go_ret
          exact ⟨rfl, rfl⟩
    · have e : Cal.dim y m = 31 := by unfold Cal.dim; rw [if_neg c2, if_neg c]
      rw [e]
      have m4 : (m == 4) = false := by rw [beq_eq_false_iff_ne]; omega
      have m6 : (m == 6) = false := by rw [beq_eq_false_iff_ne]; omega
      have m9 : (m == 9) = false := by rw [beq_eq_false_iff_ne]; omega
      have m11 : (m == 11) = false := by rw [beq_eq_false_iff_ne]; omega
      have m2 : (m == 2) = false := by rw [beq_eq_false_iff_ne]; omega
      clear e c c2 h0 h1
      go_enter Tryd.func43, Tryd.ntmps43
      go_wp2
      go_ret
      exact ⟨rfl, rfl⟩

set_option maxHeartbeats 1000000 in
theorem julian_any (y m d : Int) (w : World) (h0 : 1600 ≤ y) (h1 : y ≤ 2400) (h2 : 1 ≤ m) (h3 : m ≤ 12) (h4 : 0 ≤ d) (h5 : d ≤ 1000) :
    Calls Tryd.prog 12 #[.int .i64 y, .int .i64 m, .int .i64 d] w fun e w' => e = .returned (.int .i64 (Cal.num y m d)) ∧ w = w' := by
  rw [← Cal.jul_num y m d h2 h3]
  by_cases c : m ≤ 2
  · have ha : (14 - m) / 12 = 1 := by omega
    unfold Cal.jul
    go_enter Tryd.func12, Tryd.ntmps12
    go_wp2
    go_ret
    exact ⟨ret_int (by omega), rfl⟩
  · have ha : (14 - m) / 12 = 0 := by omega
    unfold Cal.jul
    go_enter Tryd.func12, Tryd.ntmps12
    go_wp2
    go_ret
    exact ⟨ret_int (by omega), rfl⟩

set_option maxHeartbeats 2000000 in
theorem rdate_any (n : Int) (w : World) (h0 : 0 ≤ n) (h1 : n ≤ 292193) :
    Calls Tryd.prog 11 #[.int .i64 n] w fun e w' => e = .returned (day3 (Cal.Y n) (Cal.M n) (Cal.D n)) ∧ Kept w w' := by
  go_enter Tryd.func11, Tryd.ntmps11
  go_wp2
  exact bodyPost_ret (v := day3 (Cal.Y n) (Cal.M n) (Cal.D n)) (by simp [results, Tryd.results11, go_sem, Cal.Y, Cal.M, Cal.D, Cal.fm, Cal.fe, Cal.fd, Cal.fc, Cal.fb]) rfl ⟨rfl, (Kept.refl _).alloc _⟩

/-- What the reference's Of returns: -1 where there is no such date. -/
def rofV (y m d : Int) : Int := if Cal.vldB y m d = true then Cal.num y m d else -1

set_option maxHeartbeats 1000000 in
theorem rlast_any (n : Int) (w : World) (h0 : 0 ≤ n) (h1 : n ≤ 292193) :
    Calls Tryd.prog 16 #[.int .i64 n] w fun e w' => e = .returned (.int .i64 (lastV n)) ∧ Kept w w' := by
  have hd := dbd n h0 h1
  have hl : lastV n = n + Cal.dim (Cal.Y n) (Cal.M n) - Cal.D n := by
    have e := (Cal.date n h0 h1).2
    unfold lastV; unfold Cal.num at *; omega
  rw [hl]
  clear hl
  have e1 : IntKind.i64.wrap (n + Cal.dim (Cal.Y n) (Cal.M n)) = n + Cal.dim (Cal.Y n) (Cal.M n) := IntWalk.i64_in _ (by omega)
  have e2 : IntKind.i64.wrap (n + Cal.dim (Cal.Y n) (Cal.M n) - Cal.D n) = n + Cal.dim (Cal.Y n) (Cal.M n) - Cal.D n := IntWalk.i64_in _ (by omega)
  have E1 := Lib.hid e1
  have E2 := Lib.hid e2
  clear e1 e2
  go_enter Tryd.func16, Tryd.ntmps16
  go_wp2_with fail
  refine (rdate_any _ _ h0 h1).mono ?_
  rintro e w1 ⟨rfl, hk1⟩
  go_wp2_with fail
  have e1 := E1.out
  have e2 := E2.out
  go_quiet ((go_at_call 43; exact quiet_same (rlong_any _ _ _ (by omega) (by omega))))
  clear e1 e2
  go_wp2
  go_ret
  exact ⟨rfl, (hk1.alloc _).drewN _⟩

end Go.Proofs.YtcfcbglnmhoknabDoor
