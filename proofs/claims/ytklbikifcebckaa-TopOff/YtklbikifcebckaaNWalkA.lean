/-
  What package fall returns: check and Falling. No condition but those that each theorem names.
-/
import Derived.Test.YtklbikifcebckaaNMath
namespace Go.Proofs.Ytklbikifcebckaa
open Go.RowKit

set_option maxHeartbeats 1000000 in
theorem fcheck_any (c r n : Int) (w : World) :
    Calls Try.prog 87 #[.int .i64 c, .int .i64 r, .int .i64 n] w fun e w' => e = .returned (.int .i64 (erA c r n)) ∧ Kept w w' := by
  cases h : okA c r n
  · rw [erA_no h]
    have H := Lib.hid h
    clear h
    go_enter Try.func87, Try.ntmps87
    go_wp2_with fail
    refine (straight_no _ _ _ _ H.out).mono ?_
    rintro e w1 ⟨rfl, hK⟩
    go_wp2
    go_ret
    exact ⟨rfl, hK⟩
  · rw [erA_yes h]
    obtain ⟨h1, h2, h3, h4, h5, h6⟩ := (okA_iff c r n).1 h
    obtain ⟨m, rfl⟩ := Int.eq_ofNat_of_zero_le (show 0 ≤ n by omega)
    have H := Lib.hid h
    clear h
    go_enter Try.func87, Try.ntmps87
    go_wp2_with fail
    refine (straight_yes _ _ _ _ H.out).mono ?_
    rintro e w1 ⟨p, hp, rfl, hO, hK⟩
    go_wp2
    go_ret
    exact ⟨rfl, hK⟩

set_option maxRecDepth 100000 in
set_option maxHeartbeats 4000000 in
theorem falling_yes (c r rate : Int) (n : Nat) (w : World) (h : okA c r n = true) (hr : rtB rate = true) :
    Calls Try.prog 40 #[.int .i64 c, .int .i64 r, .int .i64 rate, .int .i64 (n : Int)] w (PairPost w n (flP c r rate n)) := by
  have H := Lib.hid (erA_yes h)
  obtain ⟨h1, h2, h3, h4, h5, h6⟩ := (okA_iff c r n).1 h
  obtain ⟨r0, r1⟩ := (rtB_iff rate).1 hr
  have VB := Lib.hid (fun k => flV_bd c r rate n k h3 h4 r0)
  have mk := make_ints n (by omega)
  clear h hr
  go_enter Try.func40, Try.ntmps40
  go_wp2_with fail
  refine (fcheck_any _ _ _ _).mono ?_
  rintro e w1 ⟨rfl, hK1⟩
  rw [H.out]
  go_wp2
  have hO := Own.made (w := w1) (n := n) (t := 3) rfl
  have hK := hK1.alloc (.cells (zs n) 3)
  rw [tab_zero] at hO
  have hpl : w.heap.size ≤ w1.heap.size := hK1.le
  generalize w1.heap.size = p at *
  clear mk hK1
  generalize w1.alloc (.cells (zs n) 3) = w2 at *
  go_loopw [12, 31] (fun b i wr => ∃ k : Nat, k ≤ n ∧ i = .int .i64 k ∧ b = .int .i64 (flV c r rate n k) ∧ Own wr p (tab n (mix (flP c r rate n) (fun _ => 0) k)) ∧ Kept w wr) (fun _ i _ => (n - intOf i).toNat)
  case atStart => exact ⟨0, by omega, rfl, rfl, by rw [mix_zero]; exact hO, hK⟩
  case round =>
    obtain ⟨k, hk, rfl, rfl, hOr, hKr⟩ := hrel
    clear hO hK
    by_cases hlt : k < n
    · have vb := VB.out k
      have VN := Lib.hid (show flV c r rate n (k + 1) = flV c r rate n k - flP c r rate n k from rfl)
      have DD := Lib.hid (show flP c r rate n k = min (max (rnd (flV c r rate n k * rate) 1000000 2) (rnd (flV c r rate n k - r) ((n : Int) - (k : Int)) 1)) (flV c r rate n k - r) by
        unfold flP flD; rw [show ((n - k : Nat) : Int) = (n : Int) - (k : Int) by omega])
      have pb := flP_bd c r rate n k h3 h4 r0
      have PF := Lib.hid (show flP c r rate n k = flP c r rate n k from rfl)
      generalize hV : flV c r rate n k = V at *
      have OM := Lib.hid ((okM_iff V rate 2).2 ⟨by omega, by omega, by omega, by omega⟩)
      have OB := Lib.hid ((ok_iff (V - r) ((n : Int) - (k : Int))).2 ⟨by omega, by omega, by omega, by omega⟩)
      have ub : 0 ≤ rnd (V - r) ((n : Int) - (k : Int)) 1 := rnd_nonneg _ _ _ (by omega) (by omega) (by omega) (by omega)
      have ub1 : rnd (V - r) ((n : Int) - (k : Int)) 1 ≤ 1000000000000 := rnd_le _ _ _ _ (by omega) (by
        have : (1000000000000 : Int) * 1 ≤ 1000000000000 * ((n : Int) - (k : Int)) := Int.mul_le_mul_of_nonneg_left (by omega) (by omega)
        omega) (by omega) (by omega)
      have sb := shV_bd OM.out
      have SE := Lib.hid (show shV V rate 2 = rnd (V * rate) 1000000 2 from rfl)
      go_wp2_with fail
      refine (share_yes _ _ _ _ OM.out).mono ?_
      rintro e w3 ⟨rfl, hK3⟩
      have hO3 := hOr.later hK3
      have hKr3 := hKr.trans hK3
      clear hOr hKr hK3
      go_wp2_with fail
      refine (round_yes _ _ _ _ OB.out (by omega) (by omega)).mono ?_
      rintro e w4 ⟨rfl, hK4⟩
      have hO4 := hO3.later hK4
      have hK5 := hKr3.trans hK4
      clear hO3 hKr3 hK4 OM OB
      have hc := hO4.cell k (by rw [tab_len]; exact hlt)
      have hf := hO4.free k (by rw [tab_len]; exact hlt)
      rw [tab_get, mix_at] at hc
      have dd := DD.out
      rw [← SE.out] at dd
      generalize shV V rate 2 = s at *
      generalize rnd (V - r) ((n : Int) - (k : Int)) 1 = u at *
      generalize hD : flP c r rate n k = d at *
      have ST := Lib.hid (show Own (w4.setCell ⟨p, k, none⟩ (.int .i64 d)) p (tab n (mix (flP c r rate n) (fun _ => 0) (k + 1))) by
        have := hO4.set k (flP c r rate n k) (by rw [tab_len]; exact hlt)
        rw [tab_set, mix_set (flP c r rate n) _ k, hD] at this
        exact this)
      have KT := Lib.hid (hK5.setAt (i := k) hpl (.int .i64 d))
      have HV := Lib.hid (show flV c r rate n (k + 1) = V - d from VN.out)
      clear DD PF SE VN hV hD VB H
      have MM := Lib.hid (show d = min (max s u) (V - r) by first | exact dd | exact dd.symm | omega)
      rcases (show (s < u ∧ V - r < u ∧ d = V - r) ∨ (s < u ∧ u ≤ V - r ∧ d = u) ∨ (u ≤ s ∧ V - r < s ∧ d = V - r) ∨ (u ≤ s ∧ s ≤ V - r ∧ d = s) by omega) with ⟨q1, q2, rfl⟩ | ⟨q1, q2, rfl⟩ | ⟨q1, q2, rfl⟩ | ⟨q1, q2, rfl⟩
      all_goals
        clear dd
        go_wp2
        go_roundw
        case rel => first | exact ⟨k + 1, by omega, by go_num, by rw [HV.out], ST.out, KT.out⟩ | exact ⟨k + 1, by omega, by go_num, by rw [HV.out, ← MM.out], by rw [← MM.out]; exact ST.out, by rw [← MM.out]; exact KT.out⟩
        case measure => simp [intOf]; omega
    · obtain rfl : k = n := by omega
      clear hlt
      rw [mix_end] at hOr
      go_wp2
      go_ret2
      exact ⟨p, hpl, rfl, hOr, hKr⟩
set_option maxRecDepth 100000 in
set_option maxHeartbeats 1000000 in
theorem falling_no (c r rate n : Int) (w : World) (h : okA c r n = false ∨ rtB rate = false) :
    Calls Try.prog 40 #[.int .i64 c, .int .i64 r, .int .i64 rate, .int .i64 n] w (NonePost w 1) := by
  cases ho : okA c r n
  · have H := Lib.hid (erA_no ho)
    clear h ho
    go_enter Try.func40, Try.ntmps40
    go_wp2_with fail
    refine (fcheck_any _ _ _ _).mono ?_
    rintro e w1 ⟨rfl, hK1⟩
    rw [H.out]
    go_wp2
    go_ret2
    exact ⟨rfl, hK1⟩
  · have hr : rtB rate = false := by
      rcases h with h | h
      · rw [ho] at h; cases h
      · exact h
    obtain ⟨h1, h2, h3, h4, h5, h6⟩ := (okA_iff c r n).1 ho
    obtain ⟨m, rfl⟩ := Int.eq_ofNat_of_zero_le (show 0 ≤ n by omega)
    have H := Lib.hid (erA_yes ho)
    have OM := Lib.hid (show okM c rate 2 = false by unfold okM; rw [hr]; simp)
    have mk := make_ints m (by omega)
    have m0 : (0 : Int) < (m : Int) := by omega
    clear h ho hr
    go_enter Try.func40, Try.ntmps40
    go_wp2_with fail
    refine (fcheck_any _ _ _ _).mono ?_
    rintro e w1 ⟨rfl, hK1⟩
    rw [H.out]
    go_wp2
    have hK := hK1.alloc (.cells (zs m) 3)
    clear mk hK1
    generalize w1.heap.size = p at *
    generalize w1.alloc (.cells (zs m) 3) = w2 at *
    go_loopw [12, 31] (fun b i wr => i = .int .i64 0 ∧ b = .int .i64 c ∧ wr = w2) (fun _ _ _ => 0)
    case atStart => exact ⟨rfl, rfl, rfl⟩
    case round =>
      obtain ⟨rfl, rfl, rfl⟩ := hrel
      go_wp2_with fail
      refine (share_no _ _ _ _ OM.out).mono ?_
      rintro e w3 ⟨rfl, hK3⟩
      go_wp2
      go_ret2
      exact ⟨rfl, hK.trans hK3⟩

end Go.Proofs.Ytklbikifcebckaa
