/-
  The law FallSum returns true: by the declining balance all of it is written off, no depreciation is negative, and it is never behind equal parts. No condition.
-/
import Derived.Test.YtcelkgbpgpgpjaaNWalkA
namespace Go.Proofs.Ytcelkgbpgpgpjaa
open Go.RowKit

theorem fl_100 : tab 3 (flP 100 10 500000 3) = [50, 25, 15] := by decide
theorem mul_bd40 (a : Int) (k : Nat) (a0 : 0 ≤ a) (a1 : a ≤ 1000000000000) (hk : k ≤ 40) : 0 ≤ a * (k : Int) ∧ a * (k : Int) ≤ 40000000000000 := ak_bd a k a0 a1 hk
theorem ok_or {c r m rate : Int} (h : ¬ (okA c r m = true ∧ rtB rate = true)) : okA c r m = false ∨ rtB rate = false := by
  cases a : okA c r m
  · exact .inl rfl
  · cases b : rtB rate
    · exact .inr rfl
    · exact absurd ⟨a, b⟩ h

set_option maxRecDepth 100000 in
set_option maxHeartbeats 4000000 in
theorem fallSum_walk (c r rate m k0 : Int) (w : World) :
    Calls Try.prog 4 #[.int .i64 c, .int .i64 r, .int .i64 rate, .int .i64 m, .int .i64 k0] w fun e w' => e = .returned (.bool true) ∧ Kept w w' := by
  go_enter Try.func4, Try.ntmps4
  go_wp2_with fail
  refine (falling_yes 100 10 500000 3 _ (by decide) (by decide)).mono ?_
  rintro e w1 ⟨p, hp, rfl, hO, hK⟩
  go_wp2_with fail
  have hQ := (Own.lit (w := w1) (l := [50, 25, 15]) (t := 3) rfl).rd
  rw [← fl_100] at hQ
  refine (equal_yes (flP 100 10 500000 3) _ _ _ _ _ _ 3 _ (by omega) (hO.rd.later ((Kept.refl w1).alloc _)) hQ).mono ?_
  rintro e w2 ⟨rfl, hd⟩
  have hK2 := (hK.alloc _).trans hd.kept
  clear hO hK hd hQ hp
  by_cases h : okA c r m = true ∧ rtB rate = true
  · obtain ⟨h1, h2, h3, h4, h5, h6⟩ := (okA_iff c r m).1 h.1
    obtain ⟨r0, r1⟩ := (rtB_iff rate).1 h.2
    obtain ⟨n, rfl⟩ := Int.eq_ofNat_of_zero_le (show 0 ≤ m by omega)
    have H := Lib.hid h
    clear h
    have n1 : 1 ≤ n := by omega
    have XB := Lib.hid (fun i => flP_bd c r rate n i h3 h4 r0)
    have XS := Lib.hid (show sumTo (flP c r rate n) n = c - r by rw [flP_sum, flV_end c r rate n h3 h4 r0 n1])
    have XF := Lib.hid (fun k (hk : k ≤ n) => flP_fast c r rate n k h3 h4 r0 hk)
    have XT := Lib.hid (fun k => show 0 ≤ sumTo (flP c r rate n) k ∧ sumTo (flP c r rate n) k ≤ 1000000000000 by
      rw [flP_sum]; have := flV_bd c r rate n k h3 h4 r0; omega)
    go_wp2_with fail
    refine (falling_yes _ _ _ _ _ H.out.1 H.out.2).mono ?_
    rintro e w3 ⟨q, hq, rfl, hX, hK3⟩
    have hK4 := hK2.trans hK3
    clear hK2 hK3 H hq
    generalize flP c r rate n = x at *
    go_wp2_with fail
    refine (sum_any x _ _ n _ _ (by omega) (fun j hj => by have := XB.out j; omega) hX.rd).mono ?_
    rintro e w4 ⟨rfl, rfl⟩
    rw [XS.out]
    go_wp2_with fail
    refine (min_any x _ _ _ n _ (by omega) (by omega) hX.rd).mono ?_
    rintro e w4 ⟨i, hi, rfl, rfl⟩
    have bi := XB.out i
    have d0 : decide (x i < 0) = false := by simp; omega
    go_wp2_with fail
    refine (within_any _ _ _ (by omega) (by omega)).mono ?_
    rintro e w4 ⟨s, s0, s1, rfl, rfl⟩
    obtain ⟨k, rfl⟩ := Int.eq_ofNat_of_zero_le s0
    have hkn : k ≤ n := by omega
    go_wp2_with fail
    refine (sum_any x _ _ k _ _ (by omega) (fun j hj => by have := XB.out j; omega) (hX.rd.take k hkn)).mono ?_
    rintro e w4 ⟨rfl, rfl⟩
    have xf := XF.out k hkn
    have xt := XT.out k
    generalize sumTo x k = P at *
    have m1 := mul_bd40 P n xt.1 xt.2 (by omega)
    have m2 := mul_bd40 (c - r) k (by omega) (by omega) (by omega)
    have d1 : decide ((c - r) * (k : Int) ≤ P * (n : Int)) = true := by simpa using xf
    go_wp2
    go_ret
    exact ⟨ret_bool (by simp <;> omega), hK4⟩
  · have H := Lib.hid (ok_or h)
    clear h
    go_wp2_with fail
    refine (falling_no _ _ _ _ _ H.out).mono ?_
    rintro e w3 ⟨rfl, hK3⟩
    go_wp2
    go_ret
    exact ⟨rfl, hK2.trans hK3⟩

end Go.Proofs.Ytcelkgbpgpgpjaa
