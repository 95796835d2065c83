/-
  The walk of taltop.TopSeats: it returns true at every input. No condition but those that each theorem names.
-/
import Derived.Test.YtklbikifcebckaaUMathS
import Derived.Test.YtklbikifcebckaaSGrow
import Derived.Test.YtklbikifcebckaaSWalkE
import Derived.Test.YtklbikifcebckaaDWalkB
import Derived.Test.YtklbikifcebckaaUWalkA
namespace Go.Proofs.Ytklbikifcebckaa
open Go.RowKit
set_option linter.unusedVariables false

set_option maxHeartbeats 2000000 in
theorem iequal_yes (g : Nat → Int) (p off p' off' cap cap' : Nat) (n : Nat) (w : World) (hn : n ≤ 1000) (hR : Rd w p off (tab n g)) (hQ : Rd w p' off' (tab n g)) :
    Calls Try.prog 37 #[.slice (some ⟨p, off, none⟩) n cap, .slice (some ⟨p', off', none⟩) n cap'] w fun e w' => e = .returned (.bool true) ∧ Drew w w' := by
  have HR := Lib.hid hR
  have HQ := Lib.hid hQ
  clear hR hQ
  go_enter Try.func37, Try.ntmps37
  go_wp2
  go_loopw [13] (fun i wr => ∃ k m : Nat, k ≤ n ∧ i = .int .i64 k ∧ wr = w.drewN m) (fun i _ => (n - intOf i).toNat)
  case atStart => exact ⟨0, 0, by omega, rfl, rfl⟩
  case round =>
    obtain ⟨k, m, hk, rfl, rfl⟩ := hrel
    by_cases hlt : k < n
    · have c0 := HR.out.cell k (by rw [tab_len]; exact hlt)
      have d0 := HQ.out.cell k (by rw [tab_len]; exact hlt)
      rw [tab_get] at c0 d0
      have i0 : (0 : Int) ≤ (k : Int) := by omega
      have i1 : (k : Int) < (n : Int) := by omega
      go_wp2_with fail
      go_quiet (fail)
      go_wp2
      go_roundw
      case rel => exact ⟨k + 1, _, by omega, by go_num, rfl⟩
      case measure => simp [intOf]; omega
    · obtain rfl : k = n := by omega
      clear hlt
      go_wp2
      go_ret
      exact ⟨rfl, m, rfl⟩
set_option maxRecDepth 100000 in
set_option maxHeartbeats 8000000 in
theorem topSeats_walk (a : Option Addr) (n cap : Nat) (v : Nat → Int) (k0 : Int) (w : World) (hn : n ≤ 4000000000000000000) (hA : Arg w a n v) (hc : n ≤ cap) :
    Calls Try.prog 9 #[.slice a n cap, .int .i64 k0] w fun e w' => e = .returned (.bool true) ∧ Kept w w' := by
  have HA := Lib.hid hA
  obtain ⟨t, ht⟩ : ∃ t, min n 20 = t := ⟨_, rfl⟩
  have htl : t ≤ n := by omega
  have ht20 : t ≤ 20 := by omega
  have hmin : min (n : Int) 20 = (t : Int) := by omega
  have g1 : (0 : Int) ≤ (t : Int) := by omega
  have g2 : (t : Int) ≤ (cap : Int) := by omega
  have UB := Lib.hid (fun i => wnV_bd (v i) (n := 12) (by decide))
  clear hA ht
  go_enter Try.func9, Try.ntmps9
  go_wp2_with fail
  refine (tbegun_any _).mono ?_
  rintro e w1 ⟨rfl, hK1⟩
  have HK1 := Lib.hid hK1
  clear hK1
  go_wp2_with fail
  refine (wn_any k0 20 _ (by decide) (by decide)).mono ?_
  rintro e w2 ⟨rfl, rfl⟩
  obtain ⟨k1, k2⟩ := wnV_bd k0 (n := 20) (by decide)
  generalize wnV k0 20 = r at *
  have u1 : IntKind.i64.wrap (1 + r) = 1 + r := IntWalk.i64_in _ (by omega)
  go_wp2
  clear u1
  have K1 : 1 ≤ 1 + r := by omega
  have K2 : 1 + r ≤ 20 := by omega
  generalize 1 + r = K at *
  clear k1 k2
  go_loopw [5, 6, 30] (fun s5 s6 i wr => ∃ j : Nat, j ≤ t ∧ i = .int .i64 j ∧ s6 = .int .i64 (sumTo (fun i => wnV (v i) 12) j) ∧ Gr w1.heap.size wr s5 j (fun i => wnV (v i) 12 * K) ∧ Kept w1 wr) (fun _ _ i _ => t - (intOf i).toNat)
  case atStart => exact ⟨0, Nat.zero_le _, rfl, rfl, Gr.nil _ _ _, Kept.refl _⟩
  case round =>
    obtain ⟨j, hj, rfl, rfl, hG, hK⟩ := hrel
    have SB := sum_le11 (u := fun i => wnV (v i) 12) (n := j) fun i _ => by have := UB.out i; omega
    by_cases hlt : j < t
    · obtain ⟨p, off, rfl, hR⟩ := (HA.out.later (HK1.out.trans hK)).at (by omega)
      have c0 := hR.cell j (by rw [tab_len]; omega)
      rw [tab_get] at c0
      have plt := hR.lt
      obtain ⟨y0, y1⟩ := UB.out j
      have i0 : (0 : Int) ≤ (j : Int) := by omega
      have i1 : (j : Int) < (t : Int) := by omega
      have SS := Lib.hid (show sumTo (fun i => wnV (v i) 12) (j + 1) = sumTo (fun i => wnV (v i) 12) j + wnV (v j) 12 from rfl)
      have WN := Lib.hid (fun V => wn_any (v j) 12 V (by decide) (by decide))
      have hZ := Lib.hid (show (fun i => wnV (v i) 12 * K) j = wnV (v j) 12 * K from rfl)
      obtain ⟨x, hx⟩ : ∃ x, wnV (v j) 12 = x := ⟨_, rfl⟩
      have HXE := Lib.hid hx
      rw [hx] at WN SS hZ y0 y1
      clear hx hR
      generalize hS : sumTo (fun i => wnV (v i) 12) j = S at *
      clear hS
      have m1 : 0 ≤ x * K := Int.mul_nonneg y0 (by omega)
      have m2 : x * K ≤ 11 * K := Int.mul_le_mul_of_nonneg_right (by omega) (by omega)
      have u2 : IntKind.i64.wrap (S + x) = S + x := IntWalk.i64_in _ (by omega)
      have u3 : IntKind.i64.wrap (x * K) = x * K := IntWalk.i64_in _ (by omega)
      have k9 := hK.alloc (.cells #[.int .i64 (x * K)] 3)
      have HG := Lib.hid hG
      have HK := Lib.hid hK
      clear hG
      go_wp2_with fail
      refine (WN.out _).mono ?_
      rintro e w3 ⟨rfl, rfl⟩
      go_wp2_with (at_builtin; refine app_one rfl _ _ rfl (z := x * K) rfl rfl (HG.out.alloc _) (by simp) (by omega) (by have := HK.out.size; simp; omega) ?_)
      intro v' w4 hG4 hgrow _
      have hK4 := (HG.out.alloc _).below (Nat.le_refl _) (HK.out.alloc _) hgrow
      have hGC := hG4.congr (h := fun i => wnV (v i) 12 * K) fun i hi => by
        by_cases e : i = j
        · subst e; rw [up_same]; exact hZ.out.symm
        · rw [up_ne _ _ e]
      clear hgrow hG4 c0 hZ
      go_wp2
      go_roundw
      case rel => exact ⟨j + 1, by omega, by go_num, by rw [SS.out], hGC, hK4⟩
      case measure => simp [intOf]; omega
    · obtain rfl : j = t := by omega
      clear hlt
      obtain ⟨ad, cp, rfl, hAr⟩ := hG.arg
      have U0 := Lib.hid (fun i (hi : i < j) => (UB.out i).1)
      have WT := Lib.hid (show WtOk (fun i => wnV (v i) 12 * K) j from fun i _ => by
        have h1 := UB.out i
        have m1 : 0 ≤ wnV (v i) 12 * K := Int.mul_nonneg h1.1 (by omega)
        have m2 : wnV (v i) 12 * K ≤ 11 * K := Int.mul_le_mul_of_nonneg_right (by omega) (by omega)
        simp only []; omega)
      obtain ⟨s, hs⟩ : ∃ s : Nat, sumTo (fun i => wnV (v i) 12) j = s := ⟨(sumTo (fun i => wnV (v i) 12) j).toNat, by omega⟩
      have HS := Lib.hid hs
      have sb : (s : Int) ≤ 11 * (j : Int) := by omega
      have ST := Lib.hid (show sumTo (fun i => wnV (v i) 12 * K) j = s * K by rw [← hs]; exact sum_times _ _ _)
      rw [hs]
      clear hs SB
      by_cases s0 : s = 0
      · subst s0
        go_wp2
        go_ret
        exact ⟨rfl, HK1.out.trans hK⟩
      · have s1 : ((s : Int) == 0) = false := by rw [beq_eq_false_iff_ne]; omega
        have j1 : 1 ≤ j := by omega
        have e1 : (s : Int) * K ≤ 220 * K := Int.mul_le_mul_of_nonneg_right (by omega) (by omega)
        have e2 : 0 < (s : Int) * K := Int.mul_pos (by omega) (by omega)
        have OK := Lib.hid (show TotOk (s : Int) j (fun i => wnV (v i) 12 * K) from ⟨j1, by omega, by omega, by omega, WT.out, by rw [ST.out]; exact e2, by rw [ST.out]; omega⟩)
        have DL := Lib.hid (fun way h0 h2 => tab_congr j (whole_dl (way := way) (u := fun i => wnV (v i) 12) (k := K) h0 h2 (by omega) U0.out HS.out (by omega)))
        have QT := Lib.hid (show tab j (qt (s : Int) (fun i => wnV (v i) 12 * K) (sumTo (fun i => wnV (v i) 12 * K) j)) = tab j (fun i => wnV (v i) 12) from tab_congr j fun i hi => by
          unfold qt; rw [ST.out]; exact whole_qt (u := fun i => wnV (v i) 12) (k := K) (N := (s : Int)) K1 (by omega) i)
        have BE := Lib.hid (show byE (s : Int) j (fun i => wnV (v i) 12 * K) = 0 by
          unfold byE
          rw [if_neg (by omega), if_neg, if_neg (by rw [ST.out]; omega)]
          rw [(am_iff _).2 ⟨by omega, by omega⟩, (okWts_iff _ j).2 WT.out]; simp)
        have BS := Lib.hid (show ∀ i, i < j → bs (((s : Int)).natAbs : Int) (fun i => wnV (v i) 12 * K) (sumTo (fun i => wnV (v i) 12 * K) j) i = wnV (v i) 12 from fun i hi => by
          unfold bs; rw [ST.out, show (((s : Int)).natAbs : Int) = s by omega]; exact whole_qt (u := fun i => wnV (v i) 12) (k := K) (N := (s : Int)) K1 (by omega) i)
        have BU := Lib.hid (show (((s : Int)).natAbs : Int) - sumTo (bs (((s : Int)).natAbs : Int) (fun i => wnV (v i) 12 * K) (sumTo (fun i => wnV (v i) 12 * K) j)) j = (0 : Nat) by
          rw [sumTo_congr j BS.out, HS.out]; omega)
        have BV := Lib.hid (fun d => show tab j (fun i => sg (s : Int) (addU d (bs (((s : Int)).natAbs : Int) (fun i => wnV (v i) 12 * K) (sumTo (fun i => wnV (v i) 12 * K) j)) 0 i)) = tab j (fun i => wnV (v i) 12) from tab_congr j fun i hi => by
          show sg (s : Int) (bs _ _ _ i) = _
          rw [BS.out i hi]; unfold sg; rw [if_neg (by omega)])
        clear e1 e2 sb s0
        have HAr := Lib.hid hAr
        clear hAr hG
        go_wp2_with fail
        refine (quotas_yes _ _ _ _ _ _ HAr.out OK.out).mono ?_
        rintro e w5 ⟨p1, hp1, rfl, hO1, hK5⟩
        rw [QT.out] at hO1
        go_wp2_with fail
        refine (deal_yes 0 s _ _ _ _ _ (HAr.out.later hK5) (by decide) (by decide) OK.out).mono ?_
        rintro e w6 ⟨p2, hp2, rfl, hO2, hK6⟩
        rw [DL.out 0 (by decide) (by decide)] at hO2
        have k6 := hK5.trans hK6
        go_wp2_with fail
        refine (deal_yes 1 s _ _ _ _ _ (HAr.out.later k6) (by decide) (by decide) OK.out).mono ?_
        rintro e w7 ⟨p3, hp3, rfl, hO3, hK7⟩
        rw [DL.out 1 (by decide) (by decide)] at hO3
        have k7 := k6.trans hK7
        go_wp2_with fail
        refine (deal_yes 2 s _ _ _ _ _ (HAr.out.later k7) (by decide) (by decide) OK.out).mono ?_
        rintro e w8 ⟨p4, hp4, rfl, hO4, hK8⟩
        rw [DL.out 2 (by decide) (by decide)] at hO4
        have k8 := k7.trans hK8
        go_wp2_with fail
        refine (by_yes _ _ _ _ 0 _ _ (HAr.out.later k8) BE.out BU.out).mono ?_
        rintro e w9 ⟨p5, d, hp5, rfl, hOr, hO5, hK9⟩
        rw [BV.out d] at hO5
        have k9 := k8.trans hK9
        have R1 := Lib.hid (hO1.rd.later (hK6.trans (hK7.trans (hK8.trans hK9))))
        have R2 := Lib.hid (hO2.rd.later (hK7.trans (hK8.trans hK9)))
        have R3 := Lib.hid (hO3.rd.later (hK8.trans hK9))
        have R4 := Lib.hid (hO4.rd.later hK9)
        have R5 := Lib.hid hO5.rd
        have KF := Lib.hid (HK1.out.trans (hK.trans k9))
        clear hO1 hO2 hO3 hO4 hO5 hOr hK5 hK6 hK7 hK8 hK9 k6 k7 k8 k9 OK DL QT BE BS BU BV hK
        go_wp2_with fail
        refine (iequal_yes _ _ _ _ _ _ _ _ _ (by omega) R2.out R1.out).mono ?_
        rintro e wa ⟨rfl, hDa⟩
        have ka := hDa.kept
        go_wp2_with fail
        refine (iequal_yes _ _ _ _ _ _ _ _ _ (by omega) (R3.out.later ka) (R1.out.later ka)).mono ?_
        rintro e wb ⟨rfl, hDb⟩
        have kb := ka.trans hDb.kept
        go_wp2_with fail
        refine (iequal_yes _ _ _ _ _ _ _ _ _ (by omega) (R4.out.later kb) (R1.out.later kb)).mono ?_
        rintro e wc ⟨rfl, hDc⟩
        have kc := kb.trans hDc.kept
        go_wp2_with fail
        refine (iequal_yes _ _ _ _ _ _ _ _ _ (by omega) (R5.out.later kc) (R1.out.later kc)).mono ?_
        rintro e wd ⟨rfl, hDd⟩
        go_wp2
        go_ret
        exact ⟨rfl, KF.out.trans (kc.trans hDd.kept)⟩
end Go.Proofs.Ytklbikifcebckaa
