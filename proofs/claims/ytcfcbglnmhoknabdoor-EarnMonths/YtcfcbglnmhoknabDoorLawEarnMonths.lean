/-
  The law EarnMonths returns true: the monthly parts sum to the amount, and their partial sums equal By at the end of each month. Condition: the table of the months' lengths reads as the program lays it (Tab).
-/
import Derived.Test.YtcfcbglnmhoknabDoorEWalkB
namespace Go.Proofs.YtcfcbglnmhoknabDoor
open Go.RowKit

theorem ok_m0 : okE 62 0 61 61 = true := by decide
theorem mc_m0 : mCt 0 61 = 3 := by decide +kernel
theorem ea_m0 : tab 3 (eaP 62 0 61) = [31, 29, 2] := by decide +kernel
theorem mnE_ok {a f t : Int} (h : mnE a f t = 0) : okE a f t t = true ∧ mCt f t ≤ 40 := by
  unfold mnE at h
  split at h
  · rename_i c
    split at h
    · rename_i d; exact ⟨c, d⟩
    · omega
  · omega
/-- The days that the law takes. -/
theorem to_or (F L : Int) (f1 : F ≤ 292193) (l0 : 0 ≤ L) : ∃ T, F ≤ T ∧ T ≤ 292193 ∧ ((292193 < F + L ∧ T = 292193) ∨ (292193 = F + L ∧ T = 292193) ∨ (F + L < 292193 ∧ T = F + L)) := by
  by_cases c : 292193 < F + L
  · exact ⟨292193, by omega, by omega, .inl ⟨c, rfl⟩⟩
  · by_cases d : 292193 = F + L
    · exact ⟨292193, by omega, by omega, .inr (.inl ⟨d, rfl⟩)⟩
    · exact ⟨F + L, by omega, by omega, .inr (.inr ⟨by omega, rfl⟩)⟩
set_option maxRecDepth 100000 in
set_option maxHeartbeats 4000000 in
theorem earnMonths_walk (x0 x1 x2 x3 : Int) (w : World) (hT : Tab w) :
    Calls Tryd.prog 4 #[.int .i64 x0, .int .i64 x1, .int .i64 x2, .int .i64 x3] w fun e w' => e = .returned (.bool true) ∧ Kept w w' := by
  have TT := Lib.hid hT
  have DF := Lib.hid (fun w => kday_any x1 w)
  have fb := dV_bd x1
  have DL := Lib.hid (fun w => wN_any x2 1200 w (by omega) (by omega))
  have lb := wN_bd x2 1200 (by omega)
  generalize dV x1 = F at *
  generalize wN x2 1200 = L at *
  obtain ⟨f0, f1⟩ := fb
  obtain ⟨T, ft, t1, hor⟩ := to_or F L f1 lb.1
  clear hT
  rcases hor with ⟨c1, c2⟩ | ⟨c1, c2⟩ | ⟨c1, c2⟩
  all_goals
    go_enter Tryd.func4, Tryd.ntmps4
    go_wp2_with fail
    refine (months_go 62 0 61 _ TT.out ok_m0).mono ?_
    intro e w1 hp
    rw [mc_m0] at hp
    rcases hp with ⟨_, v, rfl, hG, hK⟩ | ⟨z, _⟩
    case inr => omega
    obtain ⟨ad, cap, rfl, hA⟩ := hG.arg
    obtain ⟨p, off, rfl, hR⟩ := hA.at (by decide)
    have hR' : Rd w1 p off (tab 3 (eaP 62 0 61)) := hR
    clear hG hA hR
    go_wp2_with fail
    have hQ := (Own.lit (w := w1) (l := [31, 29, 2]) (t := 3) rfl).rd
    rw [← ea_m0] at hQ
    refine (equal_yes (eaP 62 0 61) _ _ _ _ _ _ 3 _ (by omega) (hR'.later ((Kept.refl w1).alloc _)) hQ).mono ?_
    rintro e w2 ⟨rfl, hd⟩
    have hK2 := (hK.alloc _).trans hd.kept
    clear hR' hK hd hQ
    go_wp2_with fail
    refine (DF.out _).mono ?_
    rintro e w3 ⟨rfl, rfl⟩
    go_wp2_with fail
    refine (DL.out _).mono ?_
    rintro e w3 ⟨rfl, rfl⟩
    go_wp2_with fail
    first
      | rw [show F + L = T by omega]
      | rw [show Value.int .i64 292193 = .int .i64 T by rw [c2]]
    clear c1 c2
    refine (months_any _ _ _ _ (TT.out.kept hK2)).mono ?_
    intro e w4 hp
    rcases hp with ⟨e0, v, rfl, hG, hK4⟩ | ⟨e0, rfl, hK4⟩
    case inr =>
      generalize mnE x0 F T = er at *
      have ne : (er == 0) = false := by rw [beq_eq_false_iff_ne]; exact e0
      clear e0
      go_wp2
      go_ret
      exact ⟨rfl, hK2.trans hK4⟩
    obtain ⟨ho, m40⟩ := mnE_ok e0
    obtain ⟨⟨a0, a1⟩, _, ⟨t0, _⟩, _, _⟩ := (okE_iff x0 F T T).1 ho
    have mp := mCt_pos F T f0 ft t1
    obtain ⟨m, hm⟩ := Int.eq_ofNat_of_zero_le (show 0 ≤ mCt F T by omega)
    rw [hm, show ((m : Int)).toNat = m by omega] at hG
    obtain ⟨ad, cap', rfl, hA⟩ := hG.arg
    obtain ⟨q, of', rfl, hR⟩ := hA.at (by omega)
    have mc := hG.cap
    have ES := Lib.hid (fun k (hk : k < m) => enD_spec F T f0 ft t1 k (by omega))
    have PS := Lib.hid (fun k => eaP_sum x0 F T ft k)
    have CE := Lib.hid (eaC_end x0 F T f0 ft t1 m hm.symm)
    have CB := Lib.hid (fun k => eaC_bd (a := x0) (f := F) (t := T) ft k a0 a1)
    have PD := Lib.hid (fun j => show eaP x0 F T j = eaC x0 F T (j + 1) - eaC x0 F T j from rfl)
    have PB := Lib.hid (fun j => show -2000000000000 ≤ eaP x0 F T j ∧ eaP x0 F T j ≤ 2000000000000 by
      have := PD.out j; have := CB.out j; have := CB.out (j + 1); omega)
    have BY := Lib.hid (fun k (hk : k < m) w => eby_yes x0 F T (enD F (k + 1)) w ((okE_iff _ _ _ _).2 ⟨⟨a0, a1⟩, ⟨f0, f1⟩, ⟨t0, t1⟩, ⟨by have := ES.out k hk; omega, (ES.out k hk).2.2.2.2.1⟩, ft⟩))
    have CV := Lib.hid (fun k => show eaV x0 F T (enD F k) = eaC x0 F T k from rfl)
    have m1 : 1 ≤ m := by omega
    have mm : m ≤ 40 := by omega
    have RR := Lib.hid (fun j (hj : j ≤ m) => show Rd w4 q of' (tab j (eaP x0 F T)) from ⟨hR.lt, fun i hi => by
      rw [tab_len] at hi
      have := hR.cell i (by rw [tab_len]; omega)
      rw [tab_get] at this ⊢
      exact this⟩)
    have hK := hK2.trans hK4
    clear ho m40 mp hm hG hA hR hK2 hK4 e0
    have mz : ((m : Int) == 0) = false := by rw [beq_eq_false_iff_ne]; omega
    go_wp2_with fail
    refine (sum_any (eaP x0 F T) _ _ m _ _ (by omega) (fun j _ => PB.out j) (RR.out m (Nat.le_refl _))).mono ?_
    rintro e w5 ⟨rfl, rfl⟩
    rw [PS.out, CE.out]
    go_wp2_with fail
    refine (within_any _ _ _ (by omega) (by omega)).mono ?_
    rintro e w5 ⟨r, r0, r1, rfl, rfl⟩
    obtain ⟨k, rfl⟩ := Int.eq_ofNat_of_zero_le r0
    have kl : k < m := by omega
    clear r0 r1
    go_wp2_with fail
    refine (last_yes F _ (TT.out.kept hK) f0 f1).mono ?_
    rintro e w5 ⟨rfl, hK5⟩
    rw [show lastV F = enD F 1 by show lastV F = lastV (F - 1 + 1); rw [show F - 1 + 1 = F by omega]]
    go_wp2
    have T0 := Lib.hid (TT.out.kept hK)
    have RR2 := Lib.hid (RR.out (k + 1) (by omega))
    have K0 := Lib.hid hK
    clear hK RR TT PD
    go_loopw [13, 14, 67] (fun er x i wr => ∃ j : Nat, j ≤ k ∧ er = .int .i64 0 ∧ x = .int .i64 (enD F (j + 1)) ∧ i = .int .i64 j ∧ Kept w4 wr) (fun _ _ i _ => (k - intOf i).toNat)
    case atStart => exact ⟨0, by omega, rfl, rfl, rfl, hK5⟩
    case round =>
      obtain ⟨j, hj, rfl, rfl, rfl, hKr⟩ := hrel
      by_cases hlt : j < k
      · obtain ⟨s1, s2, s3, s4, s5, _⟩ := ES.out (j + 1) (by omega)
        have LY := Lib.hid (fun w hT => last_yes (enD F (j + 1) + 1) w hT (by omega) (by omega))
        have HX := Lib.hid (show enD F (j + 1 + 1) = lastV (enD F (j + 1) + 1) from rfl)
        rw [← HX.out] at LY
        clear HX
        have i1 : (j : Int) < (k : Int) := by omega
        go_wp2_with fail
        refine (LY.out _ (T0.out.kept hKr)).mono ?_
        rintro e w7 ⟨rfl, hK7⟩
        go_wp2
        go_roundw
        case rel => exact ⟨j + 1, by omega, rfl, rfl, by go_num, hKr.trans hK7⟩
        case measure => simp [intOf]; omega
      · obtain rfl : j = k := by omega
        clear hlt
        have R3 := Lib.hid (RR2.out.later hKr)
        have sb := CB.out (j + 1)
        go_wp2_with fail
        refine (BY.out j kl _).mono ?_
        rintro e w7 ⟨rfl, hK7⟩
        rw [CV.out]
        go_wp2_with fail
        refine (sum_any (eaP x0 F T) _ _ (j + 1) _ _ (by omega) (fun i _ => PB.out i) (R3.out.later hK7)).mono ?_
        rintro e w8 ⟨rfl, rfl⟩
        rw [PS.out]
        go_wp2
        go_ret
        exact ⟨rfl, K0.out.trans (hKr.trans hK7)⟩

end Go.Proofs.YtcfcbglnmhoknabDoor
