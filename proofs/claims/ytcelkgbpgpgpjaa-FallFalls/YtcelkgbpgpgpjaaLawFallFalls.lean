/-
  The law FallFalls returns true: declining-balance depreciation never increases, and a full rate writes off everything in the first period. No condition.
-/
import Derived.Test.YtcelkgbpgpgpjaaNWalkA
namespace Go.Proofs.Ytcelkgbpgpgpjaa
open Go.RowKit

theorem fl_whole : tab 3 (flP 100 10 1000000 3) = [90, 0, 0] := by decide
theorem ok_or' {c r m rate : Int} (h : ¬ (okA c r m = true ∧ rtB rate = true)) : okA c r m = false ∨ rtB rate = false := by
  cases a : okA c r m
  · exact .inl rfl
  · cases b : rtB rate
    · exact .inr rfl
    · exact absurd ⟨a, b⟩ h

set_option maxRecDepth 100000 in
set_option maxHeartbeats 4000000 in
theorem fallFalls_walk (c r rate m : Int) (w : World) :
    Calls Try.prog 8 #[.int .i64 c, .int .i64 r, .int .i64 rate, .int .i64 m] w fun e w' => e = .returned (.bool true) ∧ Kept w w' := by
  go_enter Try.func8, Try.ntmps8
  go_wp2_with fail
  refine (falling_yes 100 10 1000000 3 _ (by decide) (by decide)).mono ?_
  rintro e w1 ⟨p, hp, rfl, hO, hK⟩
  go_wp2_with fail
  have hQ := (Own.lit (w := w1) (l := [90, 0, 0]) (t := 3) rfl).rd
  rw [← fl_whole] at hQ
  refine (equal_yes (flP 100 10 1000000 3) _ _ _ _ _ _ 3 _ (by omega) (hO.rd.later ((Kept.refl w1).alloc _)) hQ).mono ?_
  rintro e w2 ⟨rfl, hd⟩
  have hK2 := (hK.alloc _).trans hd.kept
  clear hO hK hd hQ hp
  by_cases h : okA c r m = true ∧ rtB rate = true
  · obtain ⟨h1, h2, h3, h4, h5, h6⟩ := (okA_iff c r m).1 h.1
    obtain ⟨r0, r1⟩ := (rtB_iff rate).1 h.2
    obtain ⟨n, rfl⟩ := Int.eq_ofNat_of_zero_le (show 0 ≤ m by omega)
    have H := Lib.hid h
    clear h
    have n1 : 1 ≤ n := by omega
    have XB := Lib.hid (fun i => flP_bd c r rate n i h3 h4 r0)
    have XF := Lib.hid (fun k (hk : k + 1 < n) => flP_falls c r rate n k h3 h4 r0 hk)
    have YW := Lib.hid (flP_whole c r n h3)
    have YO := Lib.hid (show rtB 1000000 = true by decide)
    go_wp2_with fail
    refine (falling_yes _ _ _ _ _ H.out.1 H.out.2).mono ?_
    rintro e w3 ⟨q, hq, rfl, hX, hK3⟩
    have hK4 := hK2.trans hK3
    clear hK2 hK3 hq
    generalize flP c r rate n = x at *
    go_wp2_with fail
    go_loopw [13] (fun i wr => ∃ j : Nat, 1 ≤ j ∧ j ≤ n ∧ i = .int .i64 j ∧ Drew w3 wr) (fun i _ => (n - intOf i).toNat)
    case atStart => exact ⟨1, by omega, by omega, rfl, Drew.refl _⟩
    case round =>
      obtain ⟨j, j1, hj, rfl, hD⟩ := hrel
      have hXd := hX.later hD.kept
      have hKd := hK4.trans hD.kept
      by_cases hlt : j < n
      · obtain ⟨i, rfl⟩ : ∃ i, j = i + 1 := ⟨j - 1, by omega⟩
        have ca := hXd.cell i (by rw [tab_len]; omega)
        have cb := hXd.cell (i + 1) (by rw [tab_len]; omega)
        rw [tab_get] at ca cb
        have ba := XB.out i
        have bb := XB.out (i + 1)
        have nx := XF.out i hlt
        have d1 : decide (x i < x (i + 1)) = false := by simp; omega
        generalize x i = u at *
        generalize x (i + 1) = v at *
        clear hX hK4 hKd nx
        go_wp2_with fail
        go_quiet (fail)
        go_wp2
        go_roundw
        case rel => exact ⟨i + 2, by omega, by omega, by go_num, hD.drewN _⟩
        case measure => simp [intOf]; omega
      · obtain rfl : j = n := by omega
        clear hlt hX hK4 hXd
        go_wp2_with fail
        refine (falling_yes _ _ _ _ _ H.out.1 YO.out).mono ?_
        rintro e w5 ⟨q', hq', rfl, hY, hK5⟩
        have hK6 := hKd.trans hK5
        have cy := hY.cell 0 (by rw [tab_len]; omega)
        rw [tab_get, YW.out] at cy
        clear hK5 hKd hY hq'
        go_wp2
        go_ret
        exact ⟨ret_bool (by simp <;> omega), hK6⟩
  · have H := Lib.hid (ok_or' h)
    clear h
    go_wp2_with fail
    refine (falling_no _ _ _ _ _ H.out).mono ?_
    rintro e w3 ⟨rfl, hK3⟩
    go_wp2
    go_ret
    exact ⟨rfl, hK2.trans hK3⟩

end Go.Proofs.Ytcelkgbpgpgpjaa
