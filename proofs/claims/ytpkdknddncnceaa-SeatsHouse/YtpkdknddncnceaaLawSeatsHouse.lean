/-
  The law SeatsHouse returns true: with a seat more nobody has fewer. No condition.
-/
import Derived.Test.YtpkdknddncnceaaDWalkC
import Derived.Test.YtpkdknddncnceaaDMathB
namespace Go.Proofs.Ytpkdknddncnceaa
open Go.RowKit

set_option maxRecDepth 100000 in
set_option maxHeartbeats 4000000 in
theorem seatsHouse_walk (way N : Int) (a : Option Addr) (n cap : Nat) (v : Nat → Int) (w : World) (hn : n ≤ 4000000000000000000) (hA : Arg w a n v) :
    Calls Try.prog 5 #[.int .i64 way, .int .i64 N, .slice a n cap] w fun e w' => e = .returned (.bool true) ∧ Kept w w' := by
  go_enter Try.func5, Try.ntmps5
  go_wp2_with fail
  have h3 := (Own.lit (w := w) (l := [50, 30]) (t := 3) rfl).rd
  refine (deal_lit 0 3 2 [50, 30] [2, 1] _ _ _ (by decide) (by decide) (by decide) (by decide) (by decide) h3).mono ?_
  rintro e w1 ⟨p1, hp1, rfl, hO1, hK1⟩
  have hKa := ((Kept.refl w).alloc _).trans hK1
  have hQ := (Own.lit (w := w1) (l := [2, 1]) (t := 3) rfl).rd
  clear h3 hK1 hp1
  go_wp2_with fail
  refine (equal_lit [2, 1] 2 _ _ _ _ _ (by decide) (by decide) (hO1.rd.later ((Kept.refl w1).alloc _)) hQ).mono ?_
  rintro e w2 ⟨rfl, hd⟩
  have hK2 := (hKa.alloc _).trans hd.kept
  clear hO1 hKa hd hQ
  have hA2 := hA.later hK2
  clear hA
  go_wp2_with fail
  refine (within_any _ _ _ (by omega) (by omega)).mono ?_
  rintro e w3 ⟨u, u0, u3, rfl, rfl⟩
  go_wp2_with fail
  refine (within_any _ _ _ (by omega) (by omega)).mono ?_
  rintro e w3 ⟨s, s0, s3, rfl, rfl⟩
  obtain ⟨s, rfl⟩ := Int.eq_ofNat_of_zero_le s0
  have h2 : u ≤ 2 := by omega
  by_cases he : dealE u s n v = 0
  · obtain ⟨_, _, ok⟩ := dealE_way he
    have n40 := ok.n40
    have n1 := ok.n1
    have OK := Lib.hid ok
    have OK2 : Hid (TotOk ((s + 1 : Nat) : Int) n v) := ⟨ok.n1, ok.n40, by omega, by omega, ok.wts, ok.T0, ok.T1⟩
    clear he ok
    go_wp2_with fail
    refine (deal_yes u s _ n _ v _ hA2 u0 h2 OK.out).mono ?_
    rintro e w3 ⟨p, hp, rfl, hO, hK⟩
    have hK3 := hK2.trans hK
    have hA3 := hA2.later hK
    clear hK2 hA2 hK hp
    go_wp2_with fail
    refine (deal_yes u (s + 1) _ n _ v _ hA3 u0 h2 OK2.out).mono ?_
    rintro e w4 ⟨q, hq, rfl, hO2, hK⟩
    have hK4 := hK3.trans hK
    have hO1 := hO.later hK
    clear hK3 hA3 hK hq hO
    have BD := Lib.hid (fun j => dl_nn u v n s j)
    have BD2 := Lib.hid (fun j => dl_nn u v n (s + 1) j)
    have GR := Lib.hid (fun j => dl_grows u v n s j)
    have ONE := Lib.hid (dl_one (way := u) (fun q hq => (OK.out.wts q hq).1) OK.out.T0 s)
    generalize dl u v n s = x at *
    generalize dl u v n (s + 1) = y at *
    go_wp2_with fail
    go_loopw [12, 62] (fun m i wr => ∃ k : Nat, k ≤ n ∧ i = .int .i64 k ∧ m = .int .i64 (sumTo (fun i => y i - x i) k) ∧ Drew w4 wr) (fun _ i _ => (n - intOf i).toNat)
    case atStart => exact ⟨0, by omega, rfl, rfl, Drew.refl _⟩
    case round =>
      obtain ⟨k, hk, rfl, rfl, hD⟩ := hrel
      by_cases hlt : k < n
      · have hc := (hO1.later hD.kept).cell k (by rw [tab_len]; exact hlt)
        have hd := (hO2.later hD.kept).cell k (by rw [tab_len]; exact hlt)
        rw [tab_get] at hc hd
        have xb := BD.out k
        have yb := BD2.out k
        have gr : decide (y k < x k) = false := by have := GR.out k; simp; omega
        have sb := sumTo_bd (fun i => y i - x i) 2000 k (fun j _ => by have := BD.out j; have := BD2.out j; omega)
        have S := Lib.hid (show sumTo (fun i => y i - x i) (k + 1) = sumTo (fun i => y i - x i) k + (y k - x k) from rfl)
        have k1 : (k : Int) < (n : Int) := by omega
        generalize sumTo (fun i => y i - x i) k = m at *
        have HD := Lib.hid hD
        clear hD
        go_wp2_with fail
        go_quiet (fail)
        go_wp2_with fail
        go_quiet (fail)
        go_wp2
        go_roundw
        case rel => exact ⟨k + 1, by omega, by go_num, by rw [S.out], HD.out.drewN _⟩
        case measure => simp [intOf]; omega
      · obtain rfl : k = n := by omega
        clear hlt
        rw [ONE.out]
        go_wp2
        go_ret
        exact ⟨rfl, hK4.trans hD.kept⟩
  · have nb : (dealE u s n v != 0) = true := by rw [bne_iff_ne]; exact he
    have HE := Lib.hid he
    clear he
    go_wp2_with fail
    refine (deal_no u s _ n _ v _ hn hA2 HE.out).mono ?_
    rintro e w3 ⟨rfl, rfl⟩
    go_wp2
    go_ret
    exact ⟨rfl, hK2⟩

end Go.Proofs.Ytpkdknddncnceaa
