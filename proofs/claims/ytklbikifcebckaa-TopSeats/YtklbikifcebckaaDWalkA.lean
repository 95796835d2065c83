/-
  Small functions that the dealing of seats calls: Within, sum, slices.Equal, slices.ContainsFunc of badVotes; a slice that came in. No condition but those that each theorem names.
-/
import Derived.Test.YtklbikifcebckaaDMath
namespace Go.Proofs.Ytklbikifcebckaa
open Go.RowKit

set_option maxHeartbeats 400000 in
theorem badWeight_anyD (v : Int) (w : World) :
    Calls Try.prog 121 #[.int .i64 v] w fun e w' => e = .returned (.bool (badB v)) ∧ w = w' := by
  have E := Lib.hid (show badB v = decide (v < 0 ∨ 1000000 < v) from rfl)
  generalize badB v = B at *
  by_cases h : v < 0
  · go_enter Try.func121, Try.ntmps121
    go_wp2
    go_ret
    exact ⟨ret_bool (by rw [E.out]; simp [h]), rfl⟩
  · have hb : decide (v < 0) = false := by simpa using h
    have H := Lib.hid h
    clear h
    go_enter Try.func121, Try.ntmps121
    go_wp2
    go_ret
    exact ⟨ret_bool (by rw [E.out]; have := H.out; simp; omega), rfl⟩

set_option maxHeartbeats 1000000 in
theorem index_bad_okD (a : Option Addr) (n cap : Nat) (wt : Nat → Int) (w : World) (hn : n ≤ 1000) (hA : Arg w a n wt) (hw : WtOk wt n) :
    Calls Try.prog 123 #[.slice a n cap, .func (.func 121) #[] #[]] w fun e w' => e = .returned (.int .i64 (-1)) ∧ w = w' := by
  have HA := Lib.hid hA
  have HW := Lib.hid hw
  clear hA hw
  go_enter Try.func123, Try.ntmps123
  go_wp2
  go_loop [8] (fun i => ∃ j : Nat, j ≤ n ∧ i = .int .i64 j) (fun i => (n - intOf i).toNat)
  case atStart => exact ⟨0, by omega, rfl⟩
  case round =>
    obtain ⟨j, hj, rfl⟩ := hrel
    by_cases hlt : j < n
    · obtain ⟨p, off, rfl, hR⟩ := HA.out.at (by omega)
      have hc := hR.cell j (by rw [tab_len]; exact hlt)
      rw [tab_get] at hc
      have HB := Lib.hid (badB_ok (HW.out j hlt))
      clear hR
      go_wp2_with fail
      refine (badWeight_anyD _ _).mono ?_
      rintro e w1 ⟨rfl, rfl⟩
      rw [HB.out]
      go_wp2
      go_round
      case rel => exact ⟨j + 1, by omega, by go_num⟩
      case measure => simp [intOf]; omega
    · obtain rfl : j = n := by omega
      clear hlt
      go_wp2
      go_ret
      exact ⟨rfl, rfl⟩
set_option maxHeartbeats 1000000 in
theorem index_bad_badD (a : Option Addr) (n cap : Nat) (wt : Nat → Int) (w : World) (hn : n ≤ 1000) (hA : Arg w a n wt) (hw : ¬ WtOk wt n) :
    Calls Try.prog 123 #[.slice a n cap, .func (.func 121) #[] #[]] w (SomeAt w) := by
  have HA := Lib.hid hA
  have HW := Lib.hid hw
  clear hA hw
  go_enter Try.func123, Try.ntmps123
  go_wp2
  go_loop [8] (fun i => ∃ j : Nat, j ≤ n ∧ i = .int .i64 j ∧ WtOk wt j) (fun i => (n - intOf i).toNat)
  case atStart => exact ⟨0, by omega, rfl, fun i hi => by omega⟩
  case round =>
    obtain ⟨j, hj, rfl, hok⟩ := hrel
    have HK := Lib.hid hok
    clear hok
    by_cases hlt : j < n
    · obtain ⟨p, off, rfl, hR⟩ := HA.out.at (by omega)
      have hc := hR.cell j (by rw [tab_len]; exact hlt)
      rw [tab_get] at hc
      clear hR
      cases hb : badB (wt j)
      · have HB := Lib.hid hb
        have HS := Lib.hid (WtOk.succ HK.out hb)
        clear hb
        go_wp2_with fail
        refine (badWeight_anyD _ _).mono ?_
        rintro e w1 ⟨rfl, rfl⟩
        rw [HB.out]
        go_wp2
        go_round
        case rel => exact ⟨j + 1, by omega, by go_num, HS.out⟩
        case measure => simp [intOf]; omega
      · have HB := Lib.hid hb
        clear hb
        go_wp2_with fail
        refine (badWeight_anyD _ _).mono ?_
        rintro e w1 ⟨rfl, rfl⟩
        rw [HB.out]
        go_wp2
        go_ret
        exact ⟨j, rfl, rfl⟩
    · obtain rfl : j = n := by omega
      exact absurd HK.out HW.out
set_option maxHeartbeats 1000000 in
theorem contains_badD (a : Option Addr) (n cap : Nat) (wt : Nat → Int) (w : World) (hn : n ≤ 1000) (hA : Arg w a n wt) :
    Calls Try.prog 75 #[.slice a n cap, .func (.func 121) #[] #[]] w fun e w' => e = .returned (.bool (!okWts wt n)) ∧ w = w' := by
  have HA := Lib.hid hA
  clear hA
  cases ho : okWts wt n
  · have HO := Lib.hid ((not_congr (okWts_iff wt n)).1 (by rw [ho]; simp))
    clear ho
    go_enter Try.func75, Try.ntmps75
    go_wp2_with fail
    refine (index_bad_badD _ n _ wt _ hn HA.out HO.out).mono ?_
    rintro e w1 ⟨r, rfl, rfl⟩
    go_wp2
    go_ret
    exact ⟨ret_bool (by simp), rfl⟩
  · have HO := Lib.hid ((okWts_iff wt n).1 ho)
    clear ho
    go_enter Try.func75, Try.ntmps75
    go_wp2_with fail
    refine (index_bad_okD _ n _ wt _ hn HA.out HO.out).mono ?_
    rintro e w1 ⟨rfl, rfl⟩
    go_wp2
    go_ret
    exact ⟨ret_bool (by simp), rfl⟩

end Go.Proofs.Ytklbikifcebckaa
