/-
  What the reference's Votes returns. No condition but those that each theorem names.
-/
import Derived.Test.YtpkdknddncnceaaDWalkB
namespace Go.Proofs.Ytpkdknddncnceaa
open Go.RowKit

def inB (x a b : Int) : Bool := decide (a ≤ x ∧ x ≤ b)
set_option maxHeartbeats 400000 in
theorem rwithin_any (x a b : Int) (w : World) :
    Calls Try.prog 26 #[.int .i64 x, .int .i64 a, .int .i64 b] w fun e w' => e = .returned (.bool (inB x a b)) ∧ w = w' := by
  have E := Lib.hid (show inB x a b = decide (a ≤ x ∧ x ≤ b) from rfl)
  generalize inB x a b = B at *
  by_cases h : a ≤ x
  · by_cases h2 : x ≤ b
    · go_enter Try.func26, Try.ntmps26
      go_wp2
      go_ret
      exact ⟨ret_bool (by rw [E.out]; simp [h, h2]), rfl⟩
    · have hb : decide (x ≤ b) = false := by simpa using h2
      have H := Lib.hid h2
      clear h2
      go_enter Try.func26, Try.ntmps26
      go_wp2
      go_ret
      exact ⟨ret_bool (by rw [E.out]; have := H.out; simp; omega), rfl⟩
  · have hb : decide (a ≤ x) = false := by simpa using h
    have H := Lib.hid h
    clear h
    go_enter Try.func26, Try.ntmps26
    go_wp2
    go_ret
    exact ⟨ret_bool (by rw [E.out]; have := H.out; simp; omega), rfl⟩
set_option maxHeartbeats 400000 in
theorem votes1_any (v : Int) (w : World) :
    Calls Try.prog 25 #[.int .i64 v] w fun e w' => e = .returned (.bool (badB v)) ∧ w = w' := by
  have E := Lib.hid (show badB v = !inB v 0 1000000 by unfold badB inB; by_cases h : 0 ≤ v ∧ v ≤ 1000000 <;> simp [h] <;> omega)
  generalize badB v = R at *
  go_enter Try.func25, Try.ntmps25
  go_wp2_with fail
  refine (rwithin_any _ _ _ _).mono ?_
  rintro e w1 ⟨rfl, rfl⟩
  go_wp2
  go_ret
  exact ⟨ret_bool E.out.symm, rfl⟩
set_option maxHeartbeats 1000000 in
theorem index1_ok (a : Option Addr) (n cap : Nat) (wt : Nat → Int) (w : World) (hn : n ≤ 1000) (hA : Arg w a n wt) (hw : WtOk wt n) :
    Calls Try.prog 32 #[.slice a n cap, .func (.func 25) #[] #[]] w fun e w' => e = .returned (.int .i64 (-1)) ∧ w = w' := by
  have HA := Lib.hid hA
  have HW := Lib.hid hw
  clear hA hw
  go_enter Try.func32, Try.ntmps32
  go_wp2
  go_loop [8] (fun i => ∃ j : Nat, j ≤ n ∧ i = .int .i64 j) (fun i => (n - intOf i).toNat)
  case atStart => exact ⟨0, by omega, rfl⟩
  case round =>
    obtain ⟨j, hj, rfl⟩ := hrel
    by_cases hlt : j < n
    · obtain ⟨p, off, rfl, hR⟩ := HA.out.at (by omega)
      have hc := hR.cell j (by rw [tab_len]; exact hlt)
      rw [tab_get] at hc
      have HB := Lib.hid (badB_ok (HW.out j hlt))
      clear hR
      go_wp2_with fail
      refine (votes1_any _ _).mono ?_
      rintro e w1 ⟨rfl, rfl⟩
      rw [HB.out]
      go_wp2
      go_round
      case rel => exact ⟨j + 1, by omega, by go_num⟩
      case measure => simp [intOf]; omega
    · obtain rfl : j = n := by omega
      clear hlt
      go_wp2
      go_ret
      exact ⟨rfl, rfl⟩
set_option maxHeartbeats 1000000 in
theorem index1_bad (a : Option Addr) (n cap : Nat) (wt : Nat → Int) (w : World) (hn : n ≤ 1000) (hA : Arg w a n wt) (hw : ¬ WtOk wt n) :
    Calls Try.prog 32 #[.slice a n cap, .func (.func 25) #[] #[]] w (SomeAt w) := by
  have HA := Lib.hid hA
  have HW := Lib.hid hw
  clear hA hw
  go_enter Try.func32, Try.ntmps32
  go_wp2
  go_loop [8] (fun i => ∃ j : Nat, j ≤ n ∧ i = .int .i64 j ∧ WtOk wt j) (fun i => (n - intOf i).toNat)
  case atStart => exact ⟨0, by omega, rfl, fun i hi => by omega⟩
  case round =>
    obtain ⟨j, hj, rfl, hok⟩ := hrel
    have HK := Lib.hid hok
    clear hok
    by_cases hlt : j < n
    · obtain ⟨p, off, rfl, hR⟩ := HA.out.at (by omega)
      have hc := hR.cell j (by rw [tab_len]; exact hlt)
      rw [tab_get] at hc
      clear hR
      cases hb : badB (wt j)
      · have HB := Lib.hid hb
        have HS := Lib.hid (WtOk.succ HK.out hb)
        clear hb
        go_wp2_with fail
        refine (votes1_any _ _).mono ?_
        rintro e w1 ⟨rfl, rfl⟩
        rw [HB.out]
        go_wp2
        go_round
        case rel => exact ⟨j + 1, by omega, by go_num, HS.out⟩
        case measure => simp [intOf]; omega
      · have HB := Lib.hid hb
        clear hb
        go_wp2_with fail
        refine (votes1_any _ _).mono ?_
        rintro e w1 ⟨rfl, rfl⟩
        rw [HB.out]
        go_wp2
        go_ret
        exact ⟨j, rfl, rfl⟩
    · obtain rfl : j = n := by omega
      exact absurd HK.out HW.out
set_option maxHeartbeats 1000000 in
theorem contains1 (a : Option Addr) (n cap : Nat) (wt : Nat → Int) (w : World) (hn : n ≤ 1000) (hA : Arg w a n wt) :
    Calls Try.prog 24 #[.slice a n cap, .func (.func 25) #[] #[]] w fun e w' => e = .returned (.bool (!okWts wt n)) ∧ w = w' := by
  have HA := Lib.hid hA
  clear hA
  cases ho : okWts wt n
  · have HO := Lib.hid ((not_congr (okWts_iff wt n)).1 (by rw [ho]; simp))
    clear ho
    go_enter Try.func24, Try.ntmps24
    go_wp2_with fail
    refine (index1_bad _ n _ wt _ hn HA.out HO.out).mono ?_
    rintro e w1 ⟨r, rfl, rfl⟩
    go_wp2
    go_ret
    exact ⟨ret_bool (by simp), rfl⟩
  · have HO := Lib.hid ((okWts_iff wt n).1 ho)
    clear ho
    go_enter Try.func24, Try.ntmps24
    go_wp2_with fail
    refine (index1_ok _ n _ wt _ hn HA.out HO.out).mono ?_
    rintro e w1 ⟨rfl, rfl⟩
    go_wp2
    go_ret
    exact ⟨ret_bool (by simp), rfl⟩

/-- Votes that are some. -/
def posB (v : Int) : Bool := decide (0 < v)
def NoPos (wt : Nat → Int) (n : Nat) : Prop := ∀ i, i < n → posB (wt i) = false
theorem NoPos.succ {wt : Nat → Int} {j : Nat} (h : NoPos wt j) (hb : posB (wt j) = false) : NoPos wt (j + 1) := by
  intro i hi
  by_cases c : i < j
  · exact h i c
  · obtain rfl : i = j := by omega
    exact hb
def noPos (wt : Nat → Int) (n : Nat) : Bool := (List.range n).all fun i => !posB (wt i)
theorem noPos_iff (wt : Nat → Int) (n : Nat) : noPos wt n = true ↔ NoPos wt n := by
  unfold noPos NoPos
  rw [List.all_eq_true]
  constructor
  · intro h i hi
    have := h i (by simpa using hi)
    simpa using this
  · intro h i hi
    rw [h i (by simpa using hi)]; rfl
theorem posB_no {v : Int} (h : posB v = false) : posB v = false := h
set_option maxHeartbeats 400000 in
theorem votes2_any (v : Int) (w : World) :
    Calls Try.prog 27 #[.int .i64 v] w fun e w' => e = .returned (.bool (posB v)) ∧ w = w' := by
  go_enter Try.func27, Try.ntmps27
  go_wp2
  go_ret
  exact ⟨rfl, rfl⟩
set_option maxHeartbeats 1000000 in
theorem index2_ok (a : Option Addr) (n cap : Nat) (wt : Nat → Int) (w : World) (hn : n ≤ 1000) (hA : Arg w a n wt) (hw : NoPos wt n) :
    Calls Try.prog 32 #[.slice a n cap, .func (.func 27) #[] #[]] w fun e w' => e = .returned (.int .i64 (-1)) ∧ w = w' := by
  have HA := Lib.hid hA
  have HW := Lib.hid hw
  clear hA hw
  go_enter Try.func32, Try.ntmps32
  go_wp2
  go_loop [8] (fun i => ∃ j : Nat, j ≤ n ∧ i = .int .i64 j) (fun i => (n - intOf i).toNat)
  case atStart => exact ⟨0, by omega, rfl⟩
  case round =>
    obtain ⟨j, hj, rfl⟩ := hrel
    by_cases hlt : j < n
    · obtain ⟨p, off, rfl, hR⟩ := HA.out.at (by omega)
      have hc := hR.cell j (by rw [tab_len]; exact hlt)
      rw [tab_get] at hc
      have HB := Lib.hid (posB_no (HW.out j hlt))
      clear hR
      go_wp2_with fail
      refine (votes2_any _ _).mono ?_
      rintro e w1 ⟨rfl, rfl⟩
      rw [HB.out]
      go_wp2
      go_round
      case rel => exact ⟨j + 1, by omega, by go_num⟩
      case measure => simp [intOf]; omega
    · obtain rfl : j = n := by omega
      clear hlt
      go_wp2
      go_ret
      exact ⟨rfl, rfl⟩
set_option maxHeartbeats 1000000 in
theorem index2_bad (a : Option Addr) (n cap : Nat) (wt : Nat → Int) (w : World) (hn : n ≤ 1000) (hA : Arg w a n wt) (hw : ¬ NoPos wt n) :
    Calls Try.prog 32 #[.slice a n cap, .func (.func 27) #[] #[]] w (SomeAt w) := by
  have HA := Lib.hid hA
  have HW := Lib.hid hw
  clear hA hw
  go_enter Try.func32, Try.ntmps32
  go_wp2
  go_loop [8] (fun i => ∃ j : Nat, j ≤ n ∧ i = .int .i64 j ∧ NoPos wt j) (fun i => (n - intOf i).toNat)
  case atStart => exact ⟨0, by omega, rfl, fun i hi => by omega⟩
  case round =>
    obtain ⟨j, hj, rfl, hok⟩ := hrel
    have HK := Lib.hid hok
    clear hok
    by_cases hlt : j < n
    · obtain ⟨p, off, rfl, hR⟩ := HA.out.at (by omega)
      have hc := hR.cell j (by rw [tab_len]; exact hlt)
      rw [tab_get] at hc
      clear hR
      cases hb : posB (wt j)
      · have HB := Lib.hid hb
        have HS := Lib.hid (NoPos.succ HK.out hb)
        clear hb
        go_wp2_with fail
        refine (votes2_any _ _).mono ?_
        rintro e w1 ⟨rfl, rfl⟩
        rw [HB.out]
        go_wp2
        go_round
        case rel => exact ⟨j + 1, by omega, by go_num, HS.out⟩
        case measure => simp [intOf]; omega
      · have HB := Lib.hid hb
        clear hb
        go_wp2_with fail
        refine (votes2_any _ _).mono ?_
        rintro e w1 ⟨rfl, rfl⟩
        rw [HB.out]
        go_wp2
        go_ret
        exact ⟨j, rfl, rfl⟩
    · obtain rfl : j = n := by omega
      exact absurd HK.out HW.out
set_option maxHeartbeats 1000000 in
theorem contains2 (a : Option Addr) (n cap : Nat) (wt : Nat → Int) (w : World) (hn : n ≤ 1000) (hA : Arg w a n wt) :
    Calls Try.prog 24 #[.slice a n cap, .func (.func 27) #[] #[]] w fun e w' => e = .returned (.bool (!noPos wt n)) ∧ w = w' := by
  have HA := Lib.hid hA
  clear hA
  cases ho : noPos wt n
  · have HO := Lib.hid ((not_congr (noPos_iff wt n)).1 (by rw [ho]; simp))
    clear ho
    go_enter Try.func24, Try.ntmps24
    go_wp2_with fail
    refine (index2_bad _ n _ wt _ hn HA.out HO.out).mono ?_
    rintro e w1 ⟨r, rfl, rfl⟩
    go_wp2
    go_ret
    exact ⟨ret_bool (by simp), rfl⟩
  · have HO := Lib.hid ((noPos_iff wt n).1 ho)
    clear ho
    go_enter Try.func24, Try.ntmps24
    go_wp2_with fail
    refine (index2_ok _ n _ wt _ hn HA.out HO.out).mono ?_
    rintro e w1 ⟨rfl, rfl⟩
    go_wp2
    go_ret
    exact ⟨ret_bool (by simp), rfl⟩

theorem noPos_sum {v : Nat → Int} {n : Nat} (hw : WtOk v n) : noPos v n = true ↔ sumTo v n = 0 := by
  rw [noPos_iff]
  constructor
  · intro h
    have a := sum_nonneg v n (fun i hi => (hw i hi).1)
    have b := sum_le v n 0 (fun i hi => by have := h i hi; unfold posB at this; simp at this; omega)
    omega
  · intro h i hi
    unfold posB
    by_cases c : 0 < v i
    · exfalso
      have := sum_lt (f := fun _ => 0) (g := v) (n := n) (fun k hk => (hw k hk).1) i hi c
      have z : ∀ m, sumTo (fun _ => (0 : Int)) m = 0 := by intro m; induction m with | zero => rfl | succ m ih => rw [sumTo, ih]; rfl
      rw [z, h] at this; omega
    · simpa using c
set_option maxRecDepth 100000 in
set_option maxHeartbeats 4000000 in
theorem rvotes_any (N : Int) (a : Option Addr) (n cap : Nat) (v : Nat → Int) (w : World) (hn : n ≤ 4000000000000000000) (hA : Arg w a n v) :
    Calls Try.prog 14 #[.int .i64 N, .slice a n cap] w fun e w' => e = .returned (.int .i64 (totE N n v)) ∧ w = w' := by
  have HA := Lib.hid hA
  clear hA
  by_cases c : 40 < n
  · have E := Lib.hid (show totE N n v = 2 by unfold totE; rw [if_pos c])
    generalize totE N n v = U at *
    have c1 : (40 : Int) < (n : Int) := by omega
    go_enter Try.func14, Try.ntmps14
    go_wp2
    go_ret
    exact ⟨ret_int E.out.symm, rfl⟩
  · have cb : decide (40 < n) = false := by simpa using c
    have cc : decide ((40 : Int) < (n : Int)) = false := by simp; omega
    have n40 : n ≤ 40 := by omega
    cases h2 : okWts v n
    · have E := Lib.hid (show totE N n v = 1 by unfold totE; rw [if_neg c, if_pos (.inr (.inr h2))])
      generalize totE N n v = U at *
      have H2 := Lib.hid h2
      clear c h2
      go_enter Try.func14, Try.ntmps14
      go_wp2_with fail
      refine (contains1 _ n _ v _ (by omega) HA.out).mono ?_
      rintro e w1 ⟨rfl, rfl⟩
      rw [H2.out]
      go_wp2
      go_ret
      exact ⟨ret_int E.out.symm, rfl⟩
    · have HW := Lib.hid ((okWts_iff v n).1 h2)
      have H2 := Lib.hid h2
      by_cases nr : N < 0 ∨ 1000 < N
      · have E := Lib.hid (show totE N n v = 1 by unfold totE; rw [if_neg c, if_pos (by rcases nr with z | z; exact .inl z; exact .inr (.inl z))])
        have I := Lib.hid (show inB N 0 1000 = false by unfold inB; simp; omega)
        generalize totE N n v = U at *
        clear c h2 nr
        go_enter Try.func14, Try.ntmps14
        go_wp2_with fail
        refine (contains1 _ n _ v _ (by omega) HA.out).mono ?_
        rintro e w1 ⟨rfl, rfl⟩
        rw [H2.out]
        go_wp2_with fail
        refine (rwithin_any _ _ _ _).mono ?_
        rintro e w1 ⟨rfl, rfl⟩
        rw [I.out]
        go_wp2
        go_ret
        exact ⟨ret_int E.out.symm, rfl⟩
      · have I := Lib.hid (show inB N 0 1000 = true by unfold inB; simp; omega)
        have E := Lib.hid (show totE N n v = if sumTo v n = 0 then 6 else 0 by
          unfold totE; rw [if_neg c, if_neg (by rw [h2]; intro q; rcases q with q | q | q
                                                · exact nr (.inl q)
                                                · exact nr (.inr q)
                                                · cases q)])
        have P := Lib.hid (noPos_sum HW.out)
        generalize totE N n v = U at *
        clear c h2 nr
        cases hp : noPos v n
        · have HP := Lib.hid hp
          clear hp
          go_enter Try.func14, Try.ntmps14
          go_wp2_with fail
          refine (contains1 _ n _ v _ (by omega) HA.out).mono ?_
          rintro e w1 ⟨rfl, rfl⟩
          rw [H2.out]
          go_wp2_with fail
          refine (rwithin_any _ _ _ _).mono ?_
          rintro e w1 ⟨rfl, rfl⟩
          rw [I.out]
          go_wp2_with fail
          refine (contains2 _ n _ v _ (by omega) HA.out).mono ?_
          rintro e w1 ⟨rfl, rfl⟩
          rw [HP.out]
          go_wp2
          go_ret
          exact ⟨ret_int (by rw [E.out, if_neg (fun z => by rw [P.out.2 z] at HP; cases HP.out)]), rfl⟩
        · have HP := Lib.hid hp
          clear hp
          go_enter Try.func14, Try.ntmps14
          go_wp2_with fail
          refine (contains1 _ n _ v _ (by omega) HA.out).mono ?_
          rintro e w1 ⟨rfl, rfl⟩
          rw [H2.out]
          go_wp2_with fail
          refine (rwithin_any _ _ _ _).mono ?_
          rintro e w1 ⟨rfl, rfl⟩
          rw [I.out]
          go_wp2_with fail
          refine (contains2 _ n _ v _ (by omega) HA.out).mono ?_
          rintro e w1 ⟨rfl, rfl⟩
          rw [HP.out]
          go_wp2
          go_ret
          exact ⟨ret_int (by rw [E.out, if_pos (P.out.1 HP.out)]), rfl⟩

end Go.Proofs.Ytpkdknddncnceaa
