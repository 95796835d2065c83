/-
  The law SeatsQuota returns true: of Jefferson nobody has fewer than his quota, rounded down; of Adams nobody more than it, rounded up. No condition.
-/
import Derived.Test.YtpkdknddncnceaaDWalkC
import Derived.Test.YtpkdknddncnceaaDMathB
namespace Go.Proofs.Ytpkdknddncnceaa
open Go.RowKit

set_option maxRecDepth 100000 in
set_option maxHeartbeats 4000000 in
theorem seatsQuota_walk (N : Int) (a : Option Addr) (n cap : Nat) (v : Nat → Int) (w : World) (hn : n ≤ 4000000000000000000) (hA : Arg w a n v) :
    Calls Try.prog 8 #[.int .i64 N, .slice a n cap] w fun e w' => e = .returned (.bool true) ∧ Kept w w' := by
  go_enter Try.func8, Try.ntmps8
  go_wp2_with fail
  have h3 := (Own.lit (w := w) (l := [1, 2]) (t := 3) rfl).rd
  rw [← tab_lit [1, 2]] at h3
  refine (quotas_yes 10 _ 2 _ (lit [1, 2]) _ (Arg.of h3) (totE_tot (by decide))).mono ?_
  rintro e w1 ⟨p1, hp1, rfl, hO1, hK1⟩
  have hKa := ((Kept.refl w).alloc _).trans hK1
  rw [show tab 2 (qt 10 (lit [1, 2]) (sumTo (lit [1, 2]) 2)) = [3, 6] by decide] at hO1
  have hQ := (Own.lit (w := w1) (l := [3, 6]) (t := 3) rfl).rd
  clear h3 hK1 hp1
  go_wp2_with fail
  refine (equal_lit [3, 6] 2 _ _ _ _ _ (by decide) (by decide) (hO1.rd.later ((Kept.refl w1).alloc _)) hQ).mono ?_
  rintro e w2 ⟨rfl, hd⟩
  have hK2 := (hKa.alloc _).trans hd.kept
  clear hO1 hKa hd hQ
  have hA2 := hA.later hK2
  clear hA
  go_wp2_with fail
  refine (within_any _ _ _ (by omega) (by omega)).mono ?_
  rintro e w3 ⟨s, s0, s3, rfl, rfl⟩
  obtain ⟨s, rfl⟩ := Int.eq_ofNat_of_zero_le s0
  by_cases he : totE s n v = 0
  · have ok := totE_tot he
    have n40 := ok.n40
    have n1 := ok.n1
    have OK := Lib.hid ok
    have T0 := ok.T0
    have T1 := ok.T1
    clear he ok
    go_wp2_with fail
    refine (deal_yes 0 s _ n _ v _ hA2 (by decide) (by decide) OK.out).mono ?_
    rintro e w3 ⟨p, hp, rfl, hO, hK⟩
    have hK3 := hK2.trans hK
    have hA3 := hA2.later hK
    clear hK2 hA2 hK hp
    go_wp2_with fail
    refine (deal_yes 2 s _ n _ v _ hA3 (by decide) (by decide) OK.out).mono ?_
    rintro e w4 ⟨q, hq, rfl, hO2, hK⟩
    have hK4 := hK3.trans hK
    have hO1 := hO.later hK
    have hA4 := hA3.later hK
    clear hK3 hA3 hK hq hO
    go_wp2_with fail
    refine (quotas_yes s _ n _ v _ hA4 OK.out).mono ?_
    rintro e w5 ⟨r, hr, rfl, hO3, hK⟩
    have hK5 := hK4.trans hK
    have hP1 := Lib.hid (hO1.later hK).rd
    have hP2 := Lib.hid (hO2.later hK).rd
    have hP3 := Lib.hid hO3.rd
    have hA5 := hA4.later hK
    obtain ⟨vp, off, rfl, hR⟩ := hA5.at n1
    have HR := Lib.hid hR
    have F1 := Lib.hid (dl_fr (way := 0) (fun q hq => (OK.out.wts q hq).1) OK.out.T0 s)
    have F2 := Lib.hid (dl_fr (way := 2) (fun q hq => (OK.out.wts q hq).1) OK.out.T0 s)
    have BD1 := Lib.hid (fun j => dl_nn 0 v n s j)
    have BD2 := Lib.hid (fun j => dl_nn 2 v n s j)
    clear hK4 hA4 hK hr hO1 hO2 hO3 hA5 hR
    generalize dl 0 v n s = x at *
    generalize dl 2 v n s = y at *
    go_wp2_with fail
    refine (sum_any v vp off n cap _ (by omega) (fun j hj => by have := OK.out.wts j hj; omega) HR.out).mono ?_
    rintro e w6 ⟨rfl, rfl⟩
    generalize hT : sumTo v n = T at *
    have HT := Lib.hid hT
    clear hT
    go_wp2_with fail
    go_loopw [71] (fun i wr => ∃ k : Nat, k ≤ n ∧ i = .int .i64 k ∧ Drew w5 wr) (fun i _ => (n - intOf i).toNat)
    case atStart => exact ⟨0, by omega, rfl, Drew.refl _⟩
    case round =>
      obtain ⟨k, hk, rfl, hD⟩ := hrel
      by_cases hlt : k < n
      · have hc := (HR.out.later hD.kept).cell k (by rw [tab_len]; exact hlt)
        have h1 := (hP1.out.later hD.kept).cell k (by rw [tab_len]; exact hlt)
        have h2 := (hP2.out.later hD.kept).cell k (by rw [tab_len]; exact hlt)
        have h3 := (hP3.out.later hD.kept).cell k (by rw [tab_len]; exact hlt)
        rw [tab_get] at hc h1 h2 h3
        rw [Nat.zero_add] at h1 h2 h3
        have vb := OK.out.wts k hlt
        have xb := BD1.out k
        have yb := BD2.out k
        have lo := F1.out.1.lower (fun q hq => (OK.out.wts q hq).1) F1.out.2 HT.out T0 k hlt
        have lb : decide (x k < qt (s : Int) v T k) = false := by unfold qt; simp; omega
        have m0 : 0 ≤ (s : Int) * v k := Int.mul_nonneg (by omega) vb.1
        have m1 : (s : Int) * v k ≤ 1000 * 1000000 := Int.mul_le_mul (by omega) vb.2 vb.1 (by omega)
        have fin : decide ((s : Int) * v k ≤ (y k - 1) * T) = false ∨ (decide ((s : Int) * v k ≤ (y k - 1) * T) = true ∧ decide (0 < y k) = false) := by
          by_cases z : 0 < y k
          · left
            have := F2.out.1.upper (fun q hq => (OK.out.wts q hq).1) F2.out.2 HT.out k hlt z
            simp; omega
          · by_cases u : (s : Int) * v k ≤ (y k - 1) * T
            · right; exact ⟨by simpa using u, by simpa using z⟩
            · left; simpa using u
        have m2 : -40000000 ≤ (y k - 1) * T ∧ (y k - 1) * T ≤ 1000 * 40000000 := by
          constructor
          · have : -1 * T ≤ (y k - 1) * T := Int.mul_le_mul_of_nonneg_right (by omega) (by omega)
            omega
          · have : (y k - 1) * T ≤ 1000 * T := Int.mul_le_mul_of_nonneg_right (by omega) (by omega)
            omega
        have HD := Lib.hid hD
        have k1 : (k : Int) < (n : Int) := by omega
        clear hD lo
        generalize qt (s : Int) v T k = qk at *
        rcases fin with f1 | ⟨f1, f2⟩
        all_goals
          go_wp2_with fail
          go_quiet (fail)
          go_wp2
          go_roundw
          case rel => exact ⟨k + 1, by omega, by go_num, HD.out.drewN _⟩
          case measure => simp [intOf]; omega
      · obtain rfl : k = n := by omega
        clear hlt
        go_wp2
        go_ret
        exact ⟨rfl, hK5.trans hD.kept⟩
  · have nb : (totE s n v != 0) = true := by rw [bne_iff_ne]; exact he
    have HE := Lib.hid he
    have D0 := Lib.hid (dealE_tot (way := 0) (N := (s : Int)) (n := n) (v := v) (by decide) (by decide))
    have D2 := Lib.hid (dealE_tot (way := 2) (N := (s : Int)) (n := n) (v := v) (by decide) (by decide))
    clear he
    go_wp2_with fail
    refine (deal_no 0 s _ n _ v _ hn hA2 (by rw [D0.out]; exact HE.out)).mono ?_
    rintro e w3 ⟨rfl, rfl⟩
    rw [D0.out]
    go_wp2_with fail
    refine (deal_no 2 s _ n _ v _ hn hA2 (by rw [D2.out]; exact HE.out)).mono ?_
    rintro e w3 ⟨rfl, rfl⟩
    rw [D2.out]
    go_wp2_with fail
    refine (quotas_no s _ n _ v _ hn hA2 HE.out).mono ?_
    rintro e w3 ⟨rfl, rfl⟩
    generalize totE (s : Int) n v = E at *
    go_wp2
    go_ret
    exact ⟨ret_bool (by simp), hK2⟩

end Go.Proofs.Ytpkdknddncnceaa
