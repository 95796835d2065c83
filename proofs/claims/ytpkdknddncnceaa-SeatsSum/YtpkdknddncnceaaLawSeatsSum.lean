/-
  The law SeatsSum returns true: all seats are dealt out, none to who has no votes; who has more votes has no fewer. No condition.
-/
import Derived.Test.YtpkdknddncnceaaDWalkC
import Derived.Test.YtpkdknddncnceaaDMathB
namespace Go.Proofs.Ytpkdknddncnceaa
open Go.RowKit

theorem some1_bd (v : Nat → Int) (j : Nat) : 0 ≤ some1 v j ∧ some1 v j ≤ 1 := by unfold some1; split <;> omega
set_option maxRecDepth 100000 in
set_option maxHeartbeats 4000000 in
theorem seatsSum_walk (way N : Int) (a : Option Addr) (n cap : Nat) (v : Nat → Int) (w : World) (hn : n ≤ 4000000000000000000) (hA : Arg w a n v) :
    Calls Try.prog 4 #[.int .i64 way, .int .i64 N, .slice a n cap] w fun e w' => e = .returned (.bool true) ∧ Kept w w' := by
  go_enter Try.func4, Try.ntmps4
  go_wp2_with fail
  have h3 := (Own.lit (w := w) (l := [30, 20, 0]) (t := 3) rfl).rd
  refine (deal_lit 1 4 3 [30, 20, 0] [2, 2, 0] _ _ _ (by decide) (by decide) (by decide) (by decide) (by decide) h3).mono ?_
  rintro e w1 ⟨p1, hp1, rfl, hO1, hK1⟩
  have hKa := ((Kept.refl w).alloc _).trans hK1
  have hQ := (Own.lit (w := w1) (l := [2, 2, 0]) (t := 3) rfl).rd
  clear h3 hK1 hp1
  go_wp2_with fail
  refine (equal_lit [2, 2, 0] 3 _ _ _ _ _ (by decide) (by decide) (hO1.rd.later ((Kept.refl w1).alloc _)) hQ).mono ?_
  rintro e w2 ⟨rfl, hd⟩
  have hK2 := (hKa.alloc _).trans hd.kept
  clear hO1 hKa hd hQ
  have hA2 := hA.later hK2
  clear hA
  by_cases he : dealE way N n v = 0
  · obtain ⟨h0, h2, ok⟩ := dealE_way he
    obtain ⟨s, rfl⟩ := Int.eq_ofNat_of_zero_le ok.N0
    have n40 := ok.n40
    have n1 := ok.n1
    have s1 := ok.N1
    have OK := Lib.hid ok
    clear he
    go_wp2_with fail
    refine (deal_yes way s _ n _ v _ hA2 h0 h2 OK.out).mono ?_
    rintro e w3 ⟨p, hp, rfl, hO, hK⟩
    have F := Lib.hid (dl_fr (way := way) (fun q hq => (OK.out.wts q hq).1) OK.out.T0 s)
    have hK3 := hK2.trans hK
    have hA3 := hA2.later hK
    have BD := Lib.hid (fun j => dl_nn way v n s j)
    obtain ⟨vp, off, rfl, hR⟩ := hA3.at n1
    generalize dl way v n s = x at *
    clear hA2 hA3 hK hK2 hp ok
    go_wp2_with fail
    refine (sum_any x p 0 n n _ (by omega) (fun j hj => by have := BD.out j; omega) hO.rd).mono ?_
    rintro e w4 ⟨rfl, rfl⟩
    rw [F.out.2]
    have HR := Lib.hid hR
    have HO := Lib.hid hO
    clear hR hO
    go_wp2_with fail
    go_loop [11, 56] (fun z i => ∃ k : Nat, k ≤ n ∧ i = .int .i64 k ∧ z = .int .i64 (sumTo (some1 v) k)) (fun _ i => (n - intOf i).toNat)
    case atStart => exact ⟨0, by omega, rfl, rfl⟩
    case round =>
      obtain ⟨k, hk, rfl, rfl⟩ := hrel
      by_cases hlt : k < n
      · have hc := HR.out.cell k (by rw [tab_len]; exact hlt)
        rw [tab_get] at hc
        have vb := OK.out.wts k hlt
        have sb := sumTo_bd (some1 v) 1 k (fun j _ => by have := some1_bd v j; omega)
        have S := Lib.hid (show sumTo (some1 v) (k + 1) = sumTo (some1 v) k + some1 v k from rfl)
        rcases (show v k = 0 ∨ v k = 1 ∨ 2 ≤ v k by omega) with c | c | c
        · have X := Lib.hid (show some1 v k = 0 by unfold some1; rw [if_pos c])
          rw [c] at hc
          clear c vb
          go_wp2
          go_round
          case rel => exact ⟨k + 1, by omega, by go_num, by rw [S.out, X.out, Int.add_zero]⟩
          case measure => simp [intOf]; omega
        · have X := Lib.hid (show some1 v k = 1 by unfold some1; rw [if_neg (by omega)])
          rw [c] at hc
          clear c vb
          go_wp2
          go_round
          case rel => exact ⟨k + 1, by omega, by go_num, by rw [S.out, X.out]⟩
          case measure => simp [intOf]; omega
        · have X := Lib.hid (show some1 v k = 1 by unfold some1; rw [if_neg (by omega)])
          have c1 : decide (v k ≤ 1) = false := by simp; omega
          have c2 : decide (1 < v k) = true := by simp; omega
          have c3 : decide (v k < 1) = false := by simp; omega
          have c4 : decide (1 ≤ v k) = true := by simp; omega
          go_wp2
          all_goals
            go_round
            case rel => exact ⟨k + 1, by omega, by go_num, by rw [S.out, X.out]⟩
            case measure => simp [intOf]; omega
      · obtain rfl : k = n := by omega
        clear hlt
        have sb := sumTo_bd (some1 v) 1 k (fun j _ => by have := some1_bd v j; omega)
        generalize hM : sumTo (some1 v) k = M at *
        have HM := Lib.hid hM
        clear hM
        go_wp2_with fail
        go_loopw [67] (fun i wr => ∃ j : Nat, j ≤ k ∧ i = .int .i64 j ∧ Drew w3 wr) (fun i _ => (k - intOf i).toNat)
        case atStart => exact ⟨0, by omega, rfl, Drew.refl _⟩
        case round =>
          obtain ⟨j, hj, rfl, hD⟩ := hrel
          by_cases hlt : j < k
          · have hc := (HR.out.later hD.kept).cell j (by rw [tab_len]; exact hlt)
            have hx := (HO.out.later hD.kept).cell j (by rw [tab_len]; exact hlt)
            rw [tab_get] at hc hx
            have xb := BD.out j
            have vb := OK.out.wts j hlt
            have zz := Lib.hid (F.out.1.zero j hlt)
            have xd : decide (x j < 0) = false := by simp; omega
            have go : (v j == 0) = true ∧ (x j != 0) = false ∨ (v j == 0) = false := by
              by_cases z : v j = 0
              · left; rw [zz.out z, z]; simp
              · right; rw [beq_eq_false_iff_ne]; exact z
            have HDD := Lib.hid hD
            clear zz hD
            rcases go with ⟨g1, g2⟩ | g1
            all_goals
              go_wp2_with fail
              go_loopw [90] (fun i wr => ∃ t : Nat, t ≤ k ∧ i = .int .i64 t ∧ Drew w3 wr) (fun i _ => (k - intOf i).toNat)
              case atStart => exact ⟨0, by omega, rfl, HDD.out⟩
              case round =>
                clear hc hx
                obtain ⟨t, ht, rfl, hE⟩ := hrel
                by_cases hlt2 : t < k
                · have hc := (HR.out.later hE.kept).cell t (by rw [tab_len]; exact hlt2)
                  have hx := (HO.out.later hE.kept).cell j (by rw [tab_len]; exact hlt)
                  have hy := (HO.out.later hE.kept).cell t (by rw [tab_len]; exact hlt2)
                  rw [tab_get] at hc hx hy
                  have yb := BD.out t
                  have ub := OK.out.wts t hlt2
                  have HEE := Lib.hid hE
                  clear hE
                  have j1 : (j : Int) < (k : Int) := by omega
                  have t1 : (t : Int) < (k : Int) := by omega
                  have fin : decide (v t < v j) = false ∨ (decide (v t < v j) = true ∧ decide (x j < x t) = false) ∨ (decide (v t < v j) = true ∧ decide (x j < x t) = true ∧ (way != 2) = false ∧ decide (M ≤ (s : Int)) = false) := by
                    by_cases l1 : v t < v j
                    · by_cases l2 : x j < x t
                      · right; right
                        have q := Fr.more (fun q hq => (OK.out.wts q hq).1) h0 h2 F.out.1 F.out.2 j t hlt hlt2 l1 l2
                        rw [HM.out] at q
                        refine ⟨by simpa using l1, by simpa using l2, by rw [q.1]; rfl, by simp; omega⟩
                      · right; left; exact ⟨by simpa using l1, by simpa using l2⟩
                    · left; simpa using l1
                  rcases fin with f1 | ⟨f1, f2⟩ | ⟨f1, f2, f3, f4⟩
                  all_goals
                    go_wp2
                    go_quiet (fail)
                    go_wp2
                    go_roundw
                    case rel => exact ⟨t + 1, by omega, by go_num, HEE.out.drewN _⟩
                    case measure => simp [intOf]; omega
                · obtain rfl : t = k := by omega
                  clear hlt2
                  go_wp2
                  go_roundw
                  case rel => exact ⟨j + 1, by omega, by go_num, hE⟩
                  case measure => simp [intOf]; omega
          · obtain rfl : j = k := by omega
            clear hlt
            go_wp2
            go_ret
            exact ⟨rfl, hK3.trans hD.kept⟩
  · have nb : (dealE way N n v != 0) = true := by rw [bne_iff_ne]; exact he
    have HE := Lib.hid he
    clear he
    go_wp2_with fail
    refine (deal_no way N _ n _ v _ hn hA2 HE.out).mono ?_
    rintro e w3 ⟨rfl, rfl⟩
    go_wp2
    go_ret
    exact ⟨rfl, hK2⟩

end Go.Proofs.Ytpkdknddncnceaa
