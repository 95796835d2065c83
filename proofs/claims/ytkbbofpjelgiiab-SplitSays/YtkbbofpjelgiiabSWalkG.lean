/-
  The reference's Weights and Money (package talref): what they answer. No condition but those that each theorem names.
-/
import Derived.Test.YtkbbofpjelgiiabSWalkE
namespace Go.Proofs.Ytkbbofpjelgiiab
open Go.RowKit

def inB (x a b : Int) : Bool := decide (a ≤ x ∧ x ≤ b)
set_option maxHeartbeats 400000 in
theorem rwithin_any (x a b : Int) (w : World) :
    Calls Try.prog 30 #[.int .i64 x, .int .i64 a, .int .i64 b] w fun e w' => e = .returned (.bool (inB x a b)) ∧ w = w' := by
  go_enter Try.func30, Try.ntmps30
  go_wp2
  all_goals go_ret
  all_goals refine ⟨ret_bool ?_, rfl⟩
  all_goals unfold inB
  all_goals rw [Bool.eq_iff_iff]; simp <;> omega
theorem rmoney_any (n : Int) (w : World) :
    Calls Try.prog 12 #[.int .i64 n] w fun e w' => e = .returned (.bool (amB n)) ∧ w = w' := by
  go_enter Try.func12, Try.ntmps12
  go_wp2_with fail
  refine (rwithin_any _ _ _ _).mono ?_
  rintro e w' ⟨rfl, rfl⟩
  go_wp2
  go_ret
  exact ⟨rfl, rfl⟩
theorem rbad_any (v : Int) (w : World) :
    Calls Try.prog 29 #[.int .i64 v] w fun e w' => e = .returned (.bool (badB v)) ∧ w = w' := by
  have E := Lib.hid (show (!inB v 0 1000000) = badB v by unfold inB badB; rw [Bool.eq_iff_iff]; simp <;> omega)
  go_enter Try.func29, Try.ntmps29
  go_wp2_with fail
  refine (rwithin_any _ _ _ _).mono ?_
  rintro e w' ⟨rfl, rfl⟩
  go_wp2
  go_ret
  exact ⟨ret_bool E.out, rfl⟩

set_option maxHeartbeats 1000000 in
theorem index_ref_ok (a : Option Addr) (n cap : Nat) (wt : Nat → Int) (w : World) (hn : n ≤ 1000) (hA : Arg w a n wt) (hw : WtOk wt n) :
    Calls Try.prog 31 #[.slice a n cap, .func (.func 29) #[] #[]] w fun e w' => e = .returned (.int .i64 (-1)) ∧ w = w' := by
  have HA := Lib.hid hA
  have HW := Lib.hid hw
  clear hA hw
  go_enter Try.func31, Try.ntmps31
  go_wp2
  go_loop [8] (fun i => ∃ j : Nat, j ≤ n ∧ i = .int .i64 j) (fun i => (n - intOf i).toNat)
  case atStart => exact ⟨0, by omega, rfl⟩
  case round =>
    obtain ⟨j, hj, rfl⟩ := hrel
    by_cases hlt : j < n
    · obtain ⟨p, off, rfl, hR⟩ := HA.out.at (by omega)
      have hc := hR.cell j (by rw [tab_len]; exact hlt)
      rw [tab_get] at hc
      have HB := Lib.hid (badB_ok (HW.out j hlt))
      clear hR
      go_wp2_with fail
      refine (rbad_any _ _).mono ?_
      rintro e w1 ⟨rfl, rfl⟩
      rw [HB.out]
      go_wp2
      go_round
      case rel => exact ⟨j + 1, by omega, by go_num⟩
      case measure => simp [intOf]; omega
    · obtain rfl : j = n := by omega
      clear hlt
      go_wp2
      go_ret
      exact ⟨rfl, rfl⟩
set_option maxHeartbeats 1000000 in
theorem index_ref_bad (a : Option Addr) (n cap : Nat) (wt : Nat → Int) (w : World) (hn : n ≤ 1000) (hA : Arg w a n wt) (hw : ¬ WtOk wt n) :
    Calls Try.prog 31 #[.slice a n cap, .func (.func 29) #[] #[]] w (SomeAt w) := by
  have HA := Lib.hid hA
  have HW := Lib.hid hw
  clear hA hw
  go_enter Try.func31, Try.ntmps31
  go_wp2
  go_loop [8] (fun i => ∃ j : Nat, j ≤ n ∧ i = .int .i64 j ∧ WtOk wt j) (fun i => (n - intOf i).toNat)
  case atStart => exact ⟨0, by omega, rfl, fun i hi => by omega⟩
  case round =>
    obtain ⟨j, hj, rfl, hok⟩ := hrel
    have HK := Lib.hid hok
    clear hok
    by_cases hlt : j < n
    · obtain ⟨p, off, rfl, hR⟩ := HA.out.at (by omega)
      have hc := hR.cell j (by rw [tab_len]; exact hlt)
      rw [tab_get] at hc
      clear hR
      cases hb : badB (wt j)
      · have HB := Lib.hid hb
        have HS := Lib.hid (WtOk.succ HK.out hb)
        clear hb
        go_wp2_with fail
        refine (rbad_any _ _).mono ?_
        rintro e w1 ⟨rfl, rfl⟩
        rw [HB.out]
        go_wp2
        go_round
        case rel => exact ⟨j + 1, by omega, by go_num, HS.out⟩
        case measure => simp [intOf]; omega
      · have HB := Lib.hid hb
        clear hb
        go_wp2_with fail
        refine (rbad_any _ _).mono ?_
        rintro e w1 ⟨rfl, rfl⟩
        rw [HB.out]
        go_wp2
        go_ret
        exact ⟨j, rfl, rfl⟩
    · obtain rfl : j = n := by omega
      exact absurd HK.out HW.out
set_option maxHeartbeats 1000000 in
theorem contains_ref (a : Option Addr) (n cap : Nat) (wt : Nat → Int) (w : World) (hn : n ≤ 1000) (hA : Arg w a n wt) :
    Calls Try.prog 23 #[.slice a n cap, .func (.func 29) #[] #[]] w fun e w' => e = .returned (.bool (!okWts wt n)) ∧ w = w' := by
  have HA := Lib.hid hA
  clear hA
  cases ho : okWts wt n
  · have HO := Lib.hid ((not_congr (okWts_iff wt n)).1 (by rw [ho]; simp))
    clear ho
    go_enter Try.func23, Try.ntmps23
    go_wp2_with fail
    refine (index_ref_bad _ n _ wt _ hn HA.out HO.out).mono ?_
    rintro e w1 ⟨r, rfl, rfl⟩
    go_wp2
    go_ret
    exact ⟨ret_bool (by simp), rfl⟩
  · have HO := Lib.hid ((okWts_iff wt n).1 ho)
    clear ho
    go_enter Try.func23, Try.ntmps23
    go_wp2_with fail
    refine (index_ref_ok _ n _ wt _ hn HA.out HO.out).mono ?_
    rintro e w1 ⟨rfl, rfl⟩
    go_wp2
    go_ret
    exact ⟨ret_bool (by simp), rfl⟩

/-- The error of Weights. -/
def wE (n : Nat) (wt : Nat → Int) : Int := if 40 < n then 2 else if okWts wt n = false then 1 else 0
set_option maxHeartbeats 1000000 in
theorem rweights_long (a : Option Addr) (n cap : Nat) (w : World) (hn : n ≤ 4000000000000000000) (h : 40 < n) :
    Calls Try.prog 11 #[.slice a n cap] w fun e w' => e = .returned (.tuple #[.int .i64 0, .int .i64 2]) ∧ w = w' := by
  have h1 : (40 : Int) < n := by omega
  go_enter Try.func11, Try.ntmps11
  go_wp2
  go_ret2
  exact ⟨rfl, rfl⟩
set_option maxHeartbeats 1000000 in
theorem rweights_bad (a : Option Addr) (n cap : Nat) (wt : Nat → Int) (w : World) (h : n ≤ 40) (hA : Arg w a n wt) (ho : okWts wt n = false) :
    Calls Try.prog 11 #[.slice a n cap] w fun e w' => e = .returned (.tuple #[.int .i64 0, .int .i64 1]) ∧ w = w' := by
  have HA := Lib.hid hA
  have HO := Lib.hid ho
  clear hA ho
  go_enter Try.func11, Try.ntmps11
  go_wp2
  go_loop [4, 12] (fun s i => ∃ (k : Nat) (z : Int), k ≤ n ∧ i = .int .i64 k ∧ s = .int .i64 z) (fun _ i => (n - intOf i).toNat)
  case atStart => exact ⟨0, 0, by omega, rfl, rfl⟩
  case round =>
    obtain ⟨k, z, hk, rfl, rfl⟩ := hrel
    by_cases hlt : k < n
    · obtain ⟨p, off, rfl, hR⟩ := HA.out.at (by omega)
      have hc := hR.cell k (by rw [tab_len]; exact hlt)
      rw [tab_get] at hc
      clear hR
      go_wp2
      go_round
      case rel => exact ⟨k + 1, _, by omega, by go_num, rfl⟩
      case measure => simp [intOf]; omega
    · obtain rfl : k = n := by omega
      clear hlt
      go_wp2_with fail
      refine (contains_ref _ k _ wt _ (by omega) HA.out).mono ?_
      rintro e w1 ⟨rfl, rfl⟩
      rw [HO.out]
      go_wp2
      go_ret2
      exact ⟨rfl, rfl⟩
set_option maxHeartbeats 1000000 in
theorem rweights_ok (a : Option Addr) (n cap : Nat) (wt : Nat → Int) (w : World) (h : n ≤ 40) (hA : Arg w a n wt) (ho : okWts wt n = true) :
    Calls Try.prog 11 #[.slice a n cap] w fun e w' => e = .returned (.tuple #[.int .i64 (sumTo wt n), .int .i64 0]) ∧ w = w' := by
  have HA := Lib.hid hA
  have HO := Lib.hid ho
  have HW := Lib.hid ((okWts_iff wt n).1 ho)
  clear hA ho
  go_enter Try.func11, Try.ntmps11
  go_wp2
  go_loop [4, 12] (fun s i => ∃ (k : Nat), k ≤ n ∧ i = .int .i64 k ∧ s = .int .i64 (sumTo wt k)) (fun _ i => (n - intOf i).toNat)
  case atStart => exact ⟨0, by omega, rfl, rfl⟩
  case round =>
    obtain ⟨k, hk, rfl, rfl⟩ := hrel
    by_cases hlt : k < n
    · obtain ⟨p, off, rfl, hR⟩ := HA.out.at (by omega)
      have hc := hR.cell k (by rw [tab_len]; exact hlt)
      rw [tab_get] at hc
      clear hR
      have gb := HW.out k hlt
      have sb := sumTo_bd wt 1000000 k (fun j hj => by have := HW.out j (by omega); omega)
      have S := Lib.hid (show sumTo wt (k + 1) = sumTo wt k + wt k from rfl)
      go_wp2
      go_round
      case rel => exact ⟨k + 1, by omega, by go_num, by rw [S.out]⟩
      case measure => simp [intOf]; omega
    · obtain rfl : k = n := by omega
      clear hlt
      go_wp2_with fail
      refine (contains_ref _ k _ wt _ (by omega) HA.out).mono ?_
      rintro e w1 ⟨rfl, rfl⟩
      rw [HO.out]
      go_wp2
      go_ret2
      exact ⟨rfl, rfl⟩

end Go.Proofs.Ytkbbofpjelgiiab
