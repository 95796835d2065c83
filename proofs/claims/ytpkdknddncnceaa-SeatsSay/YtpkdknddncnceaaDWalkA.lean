/-
  Small functions that the dealing of seats calls: Within, sum, slices.Equal, slices.ContainsFunc of badVotes; a slice that came in. No condition but those that each theorem names.
-/
import Derived.Test.YtpkdknddncnceaaSBase
import Derived.Test.YtpkdknddncnceaaDMath
namespace Go.Proofs.Ytpkdknddncnceaa
open Go.RowKit

/-- Weights that may be. -/
def WtOk (wt : Nat → Int) (n : Nat) : Prop := ∀ i, i < n → 0 ≤ wt i ∧ wt i ≤ 1000000
theorem sum_nonneg (wt : Nat → Int) (n : Nat) (h : ∀ i, i < n → 0 ≤ wt i) : 0 ≤ sumTo wt n := by
  induction n with
  | zero => simp [sumTo]
  | succ n ih => have a := ih (fun i hi => h i (by omega)); have b := h n (by omega); rw [sumTo]; omega
theorem sum_le (wt : Nat → Int) (n : Nat) (M : Int) (h : ∀ i, i < n → wt i ≤ M) : sumTo wt n ≤ M * n := by
  induction n with
  | zero => simp [sumTo]
  | succ n ih =>
    have a := ih (fun i hi => h i (by omega)); have b := h n (by omega)
    rw [sumTo, show ((n + 1 : Nat) : Int) = (n : Int) + 1 by omega, Int.mul_add]; omega
/-! The laws' own functions. -/
/-- Some number from 0 to n - 1. -/
def SomeBelow (n : Int) (w : World) (e : Ending) (w' : World) : Prop := ∃ r : Int, 0 ≤ r ∧ r < n ∧ e = .returned (.int .i64 r) ∧ w = w'
theorem within_val (k n : Int) (w : World) (h0 : 1 ≤ n) (h1 : n ≤ 2000000000000) : SomeBelow n w (.returned (.int .i64 (wrap64 ((IntKind.u64.wrap k).tmod n)))) w := by
  have h2 : 0 ≤ IntKind.u64.wrap k := wrap_u64_nonneg k
  have h3 : (IntKind.u64.wrap k).tmod n = IntKind.u64.wrap k % n := Int.tmod_eq_emod_of_nonneg h2
  have h4 : 0 ≤ IntKind.u64.wrap k % n := Int.emod_nonneg _ (by omega)
  have h5 : IntKind.u64.wrap k % n < n := Int.emod_lt_of_pos _ (by omega)
  rw [h3]
  refine ⟨IntKind.u64.wrap k % n, h4, h5, ?_, rfl⟩
  rw [show wrap64 (IntKind.u64.wrap k % n) = IntKind.u64.wrap k % n from by unfold wrap64; omega]
set_option maxHeartbeats 400000 in
theorem within_any (k n : Int) (w : World) (h0 : 1 ≤ n) (h1 : n ≤ 2000000000000) :
    Calls Try.prog 18 #[.int .i64 k, .int .i64 n] w (SomeBelow n w) := by
  go_enter Try.func18, Try.ntmps18
  go_wp2
  go_ret
  exact within_val k n w h0 h1
set_option maxHeartbeats 1000000 in
theorem sum_any (g : Nat → Int) (p off n cap : Nat) (w : World) (hn : n ≤ 1000) (hg : ∀ j, j < n → -2000000000000 ≤ g j ∧ g j ≤ 2000000000000) (hR : Rd w p off (tab n g)) :
    Calls Try.prog 17 #[.slice (some ⟨p, off, none⟩) n cap] w fun e w' => e = .returned (.int .i64 (sumTo g n)) ∧ w = w' := by
  have HG := Lib.hid hg
  clear hg
  have HR := Lib.hid hR.cell
  have lt := hR.lt
  clear hR
  go_enter Try.func17, Try.ntmps17
  go_wp2
  go_loop [3, 8] (fun s i => ∃ k : Nat, k ≤ n ∧ i = .int .i64 k ∧ s = .int .i64 (sumTo g k)) (fun _ i => (n - intOf i).toNat)
  case atStart => exact ⟨0, by omega, rfl, rfl⟩
  case round =>
    obtain ⟨k, hk, rfl, rfl⟩ := hrel
    by_cases hlt : k < n
    · have hc := HR.out k (by rw [tab_len]; exact hlt)
      rw [tab_get] at hc
      have gb := HG.out k hlt
      have sb := sumTo_bd g 2000000000000 k (fun j hj => HG.out j (by omega))
      have S := Lib.hid (show sumTo g (k + 1) = sumTo g k + g k from rfl)
      go_wp2
      go_round
      case rel => exact ⟨k + 1, by omega, by go_num, by rw [S.out]⟩
      case measure => simp [intOf]; omega
    · obtain rfl : k = n := by omega
      clear hlt
      go_wp2
      go_ret
      exact ⟨rfl, rfl⟩

set_option maxHeartbeats 1000000 in
theorem equal_yes (g : Nat → Int) (p off cap q off' cap' n : Nat) (w : World) (hn : n ≤ 1000) (hR : Rd w p off (tab n g)) (hQ : Rd w q off' (tab n g)) :
    Calls Try.prog 15 #[.slice (some ⟨p, off, none⟩) n cap, .slice (some ⟨q, off', none⟩) n cap'] w fun e w' => e = .returned (.bool true) ∧ Drew w w' := by
  have HR := Lib.hid hR.cell
  have HQ := Lib.hid hQ.cell
  clear hR hQ
  go_enter Try.func15, Try.ntmps15
  go_wp2
  go_loopw [13] (fun i wr => ∃ k m : Nat, k ≤ n ∧ i = .int .i64 k ∧ wr = w.drewN m) (fun i _ => (n - intOf i).toNat)
  case atStart => exact ⟨0, 0, by omega, rfl, rfl⟩
  case round =>
    obtain ⟨k, m, hk, rfl, rfl⟩ := hrel
    by_cases hlt : k < n
    · have hc := HR.out k (by rw [tab_len]; exact hlt)
      have hd := HQ.out k (by rw [tab_len]; exact hlt)
      rw [tab_get] at hc hd
      generalize g k = x at *
      have i0 : (0 : Int) ≤ (k : Int) := by omega
      have i1 : (k : Int) < (n : Int) := by omega
      go_wp2_with fail
      go_quiet (fail)
      go_wp2
      go_roundw
      case rel => exact ⟨k + 1, _, by omega, by go_num, rfl⟩
      case measure => simp [intOf]; omega
    · obtain rfl : k = n := by omega
      clear hlt
      go_wp2
      go_ret
      exact ⟨rfl, m, rfl⟩

/-- A slice that came in: none, or a row. -/
def Arg (w : World) (a : Option Addr) (n : Nat) (wt : Nat → Int) : Prop := n = 0 ∨ ∃ p off, a = some ⟨p, off, none⟩ ∧ Rd w p off (tab n wt)
theorem Arg.at {w : World} {a : Option Addr} {n : Nat} {wt : Nat → Int} (h : Arg w a n wt) (hn : 0 < n) : ∃ p off, a = some ⟨p, off, none⟩ ∧ Rd w p off (tab n wt) := by
  rcases h with h | h
  · omega
  · exact h
theorem Arg.later {w w' : World} {a : Option Addr} {n : Nat} {wt : Nat → Int} (h : Arg w a n wt) (k : Kept w w') : Arg w' a n wt := by
  rcases h with h | ⟨p, off, e, hR⟩
  · exact .inl h
  · exact .inr ⟨p, off, e, hR.later k⟩
theorem Arg.of {w : World} {p off n : Nat} {wt : Nat → Int} (h : Rd w p off (tab n wt)) : Arg w (some ⟨p, off, none⟩) n wt := .inr ⟨p, off, rfl, h⟩
/-- A weight that may not be. -/
def badB (v : Int) : Bool := decide (v < 0 ∨ 1000000 < v)
theorem badB_ok {v : Int} (h : 0 ≤ v ∧ v ≤ 1000000) : badB v = false := by unfold badB; simp; omega
theorem badB_iff {v : Int} (h : badB v = false) : 0 ≤ v ∧ v ≤ 1000000 := by unfold badB at h; simp at h; omega
theorem WtOk.succ {wt : Nat → Int} {j : Nat} (h : WtOk wt j) (hb : badB (wt j) = false) : WtOk wt (j + 1) := by
  intro i hi
  by_cases c : i < j
  · exact h i c
  · obtain rfl : i = j := by omega
    exact badB_iff hb
/-- All weights may be. -/
def okWts (wt : Nat → Int) (n : Nat) : Bool := (List.range n).all fun i => !badB (wt i)
theorem okWts_iff (wt : Nat → Int) (n : Nat) : okWts wt n = true ↔ WtOk wt n := by
  unfold okWts WtOk
  rw [List.all_eq_true]
  constructor
  · intro h i hi
    have := h i (by simpa using hi)
    exact badB_iff (by simpa using this)
  · intro h i hi
    rw [badB_ok (h i (by simpa using hi))]; rfl
def SomeAt (w : World) (e : Ending) (w' : World) : Prop := ∃ r : Nat, e = .returned (.int .i64 (r : Int)) ∧ w = w'

set_option maxHeartbeats 400000 in
theorem badWeight_any (v : Int) (w : World) :
    Calls Try.prog 30 #[.int .i64 v] w fun e w' => e = .returned (.bool (badB v)) ∧ w = w' := by
  have E := Lib.hid (show badB v = decide (v < 0 ∨ 1000000 < v) from rfl)
  generalize badB v = B at *
  by_cases h : v < 0
  · go_enter Try.func30, Try.ntmps30
    go_wp2
    go_ret
    exact ⟨ret_bool (by rw [E.out]; simp [h]), rfl⟩
  · have hb : decide (v < 0) = false := by simpa using h
    have H := Lib.hid h
    clear h
    go_enter Try.func30, Try.ntmps30
    go_wp2
    go_ret
    exact ⟨ret_bool (by rw [E.out]; have := H.out; simp; omega), rfl⟩

set_option maxHeartbeats 1000000 in
theorem index_bad_ok (a : Option Addr) (n cap : Nat) (wt : Nat → Int) (w : World) (hn : n ≤ 1000) (hA : Arg w a n wt) (hw : WtOk wt n) :
    Calls Try.prog 32 #[.slice a n cap, .func (.func 30) #[] #[]] w fun e w' => e = .returned (.int .i64 (-1)) ∧ w = w' := by
  have HA := Lib.hid hA
  have HW := Lib.hid hw
  clear hA hw
  go_enter Try.func32, Try.ntmps32
  go_wp2
  go_loop [8] (fun i => ∃ j : Nat, j ≤ n ∧ i = .int .i64 j) (fun i => (n - intOf i).toNat)
  case atStart => exact ⟨0, by omega, rfl⟩
  case round =>
    obtain ⟨j, hj, rfl⟩ := hrel
    by_cases hlt : j < n
    · obtain ⟨p, off, rfl, hR⟩ := HA.out.at (by omega)
      have hc := hR.cell j (by rw [tab_len]; exact hlt)
      rw [tab_get] at hc
      have HB := Lib.hid (badB_ok (HW.out j hlt))
      clear hR
      go_wp2_with fail
      refine (badWeight_any _ _).mono ?_
      rintro e w1 ⟨rfl, rfl⟩
      rw [HB.out]
      go_wp2
      go_round
      case rel => exact ⟨j + 1, by omega, by go_num⟩
      case measure => simp [intOf]; omega
    · obtain rfl : j = n := by omega
      clear hlt
      go_wp2
      go_ret
      exact ⟨rfl, rfl⟩
set_option maxHeartbeats 1000000 in
theorem index_bad_bad (a : Option Addr) (n cap : Nat) (wt : Nat → Int) (w : World) (hn : n ≤ 1000) (hA : Arg w a n wt) (hw : ¬ WtOk wt n) :
    Calls Try.prog 32 #[.slice a n cap, .func (.func 30) #[] #[]] w (SomeAt w) := by
  have HA := Lib.hid hA
  have HW := Lib.hid hw
  clear hA hw
  go_enter Try.func32, Try.ntmps32
  go_wp2
  go_loop [8] (fun i => ∃ j : Nat, j ≤ n ∧ i = .int .i64 j ∧ WtOk wt j) (fun i => (n - intOf i).toNat)
  case atStart => exact ⟨0, by omega, rfl, fun i hi => by omega⟩
  case round =>
    obtain ⟨j, hj, rfl, hok⟩ := hrel
    have HK := Lib.hid hok
    clear hok
    by_cases hlt : j < n
    · obtain ⟨p, off, rfl, hR⟩ := HA.out.at (by omega)
      have hc := hR.cell j (by rw [tab_len]; exact hlt)
      rw [tab_get] at hc
      clear hR
      cases hb : badB (wt j)
      · have HB := Lib.hid hb
        have HS := Lib.hid (WtOk.succ HK.out hb)
        clear hb
        go_wp2_with fail
        refine (badWeight_any _ _).mono ?_
        rintro e w1 ⟨rfl, rfl⟩
        rw [HB.out]
        go_wp2
        go_round
        case rel => exact ⟨j + 1, by omega, by go_num, HS.out⟩
        case measure => simp [intOf]; omega
      · have HB := Lib.hid hb
        clear hb
        go_wp2_with fail
        refine (badWeight_any _ _).mono ?_
        rintro e w1 ⟨rfl, rfl⟩
        rw [HB.out]
        go_wp2
        go_ret
        exact ⟨j, rfl, rfl⟩
    · obtain rfl : j = n := by omega
      exact absurd HK.out HW.out
set_option maxHeartbeats 1000000 in
theorem contains_bad (a : Option Addr) (n cap : Nat) (wt : Nat → Int) (w : World) (hn : n ≤ 1000) (hA : Arg w a n wt) :
    Calls Try.prog 24 #[.slice a n cap, .func (.func 30) #[] #[]] w fun e w' => e = .returned (.bool (!okWts wt n)) ∧ w = w' := by
  have HA := Lib.hid hA
  clear hA
  cases ho : okWts wt n
  · have HO := Lib.hid ((not_congr (okWts_iff wt n)).1 (by rw [ho]; simp))
    clear ho
    go_enter Try.func24, Try.ntmps24
    go_wp2_with fail
    refine (index_bad_bad _ n _ wt _ hn HA.out HO.out).mono ?_
    rintro e w1 ⟨r, rfl, rfl⟩
    go_wp2
    go_ret
    exact ⟨ret_bool (by simp), rfl⟩
  · have HO := Lib.hid ((okWts_iff wt n).1 ho)
    clear ho
    go_enter Try.func24, Try.ntmps24
    go_wp2_with fail
    refine (index_bad_ok _ n _ wt _ hn HA.out HO.out).mono ?_
    rintro e w1 ⟨rfl, rfl⟩
    go_wp2
    go_ret
    exact ⟨ret_bool (by simp), rfl⟩

end Go.Proofs.Ytpkdknddncnceaa
