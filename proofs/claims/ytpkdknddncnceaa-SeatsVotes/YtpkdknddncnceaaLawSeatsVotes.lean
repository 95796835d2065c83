/-
  The law SeatsVotes returns true: who gets more votes, when nobody else does, has no fewer seats, and nobody else has more. No condition.
-/
import Derived.Test.YtpkdknddncnceaaDWalkC
import Derived.Test.YtpkdknddncnceaaDMathB
import Derived.Test.YtpkdknddncnceaaDGrow
namespace Go.Proofs.Ytpkdknddncnceaa
open Go.RowKit

theorem up_ok {v : Nat → Int} {n i : Nat} {z : Int} {s : Int} (h : TotOk s n v) (hi : i < n) (z0 : v i ≤ z) (z1 : z ≤ 1000000) : TotOk s n (up v i z) := by
  have w : WtOk (up v i z) n := by
    intro j hj
    unfold up
    split
    · have := h.wts i hi; omega
    · exact h.wts j hj
  have t := sum_le (up v i z) n 1000000 (fun j hj => (w j hj).2)
  have a := h.n40
  have b := h.T0
  refine ⟨h.n1, a, h.N0, h.N1, w, ?_, by omega⟩
  rw [sumTo_up v n i hi]; omega
theorem votes_end {w w4 : World} {q i p n : Nat} {z y : Int} {v x : Nat → Int} (HD : Own (w4.setCell ⟨q, i, none⟩ (.int .i64 z)) q ((tab n v).set i z)) (HP : Rd (w4.setCell ⟨q, i, none⟩ (.int .i64 z)) p 0 (tab n x))
    (HK : Kept w (w4.setCell ⟨q, i, none⟩ (.int .i64 z))) (e : z = y) :
    Own (w4.setCell ⟨q, i, none⟩ (.int .i64 y)).drew q (tab n (up v i z)) ∧ Rd (w4.setCell ⟨q, i, none⟩ (.int .i64 y)).drew p 0 (tab n x) ∧ Kept w (w4.setCell ⟨q, i, none⟩ (.int .i64 y)).drew := by
  subst e
  rw [tab_set] at HD
  exact ⟨HD.drew, ⟨HP.lt, HP.cell⟩, HK.drew⟩
set_option maxRecDepth 100000 in
set_option maxHeartbeats 4000000 in
theorem seatsVotes_walk (way N : Int) (a : Option Addr) (n cap : Nat) (v : Nat → Int) (I B : Int) (w : World) (hn : n ≤ 4000000000000000000) (hA : Arg w a n v) :
    Calls Try.prog 6 #[.int .i64 way, .int .i64 N, .slice a n cap, .int .i64 I, .int .i64 B] w fun e w' => e = .returned (.bool true) ∧ Kept w w' := by
  go_enter Try.func6, Try.ntmps6
  go_wp2_with fail
  have h3 := (Own.lit (w := w) (l := [50, 1]) (t := 3) rfl).rd
  refine (deal_lit 2 2 2 [50, 1] [1, 1] _ _ _ (by decide) (by decide) (by decide) (by decide) (by decide) h3).mono ?_
  rintro e w1 ⟨p1, hp1, rfl, hO1, hK1⟩
  have hKa := ((Kept.refl w).alloc _).trans hK1
  have hQ := (Own.lit (w := w1) (l := [1, 1]) (t := 3) rfl).rd
  clear h3 hK1 hp1
  go_wp2_with fail
  refine (equal_lit [1, 1] 2 _ _ _ _ _ (by decide) (by decide) (hO1.rd.later ((Kept.refl w1).alloc _)) hQ).mono ?_
  rintro e w2 ⟨rfl, hd⟩
  have hK2 := (hKa.alloc _).trans hd.kept
  clear hO1 hKa hd hQ
  have hA2 := hA.later hK2
  clear hA
  go_wp2_with fail
  refine (within_any _ _ _ (by omega) (by omega)).mono ?_
  rintro e w3 ⟨u, u0, u3, rfl, rfl⟩
  go_wp2_with fail
  refine (within_any _ _ _ (by omega) (by omega)).mono ?_
  rintro e w3 ⟨s, s0, s3, rfl, rfl⟩
  obtain ⟨s, rfl⟩ := Int.eq_ofNat_of_zero_le s0
  have h2 : u ≤ 2 := by omega
  by_cases he : dealE u s n v = 0
  · obtain ⟨_, _, ok⟩ := dealE_way he
    have n40 := ok.n40
    have n1 := ok.n1
    have OK := Lib.hid ok
    clear he ok
    go_wp2_with fail
    refine (deal_yes u s _ n _ v _ hA2 u0 h2 OK.out).mono ?_
    rintro e w3 ⟨p, hp, rfl, hO, hK⟩
    have hK3 := hK2.trans hK
    have hA3 := hA2.later hK
    clear hK2 hA2 hK hp
    go_wp2_with fail
    refine (within_any _ _ _ (by omega) (by omega)).mono ?_
    rintro e w4 ⟨i, i0, i3, rfl, rfl⟩
    obtain ⟨i, rfl⟩ := Int.eq_ofNat_of_zero_le i0
    have hi : i < n := by omega
    obtain ⟨vp, off, rfl, hR⟩ := hA3.at n1
    clear hA3
    go_wp2_with fail
    refine (clone_any vp off n _ v _ n1 (by omega) hR).mono ?_
    rintro e w4 ⟨q, c, hq, rfl, hG, hK⟩
    have hC := hG.toOwn
    have hK4 := hK3.trans hK
    have hq2 : w.heap.size ≤ q := Nat.le_trans hK3.size hq
    have hO4 := hO.later hK
    have hpq : p < q := by have := hO.lt; omega
    clear hG hK hK3 hO hR hq
    have hc := hC.cell i (by rw [tab_len]; exact hi)
    have hf := hC.free i (by rw [tab_len]; exact hi)
    have ql := hC.lt
    rw [tab_get] at hc
    have vb := OK.out.wts i hi
    have mb := wn_bd B 1000 (by omega) (by omega)
    have WC := Lib.hid (fun (w : World) => within_eq B 1000 w (by omega) (by omega))
    generalize wn B 1000 = m at *
    obtain ⟨z, hz, hz0, hz1⟩ : ∃ z, z = (if v i + m ≤ 1000000 then v i + m else 1000000) ∧ v i ≤ z ∧ z ≤ 1000000 := by
      refine ⟨_, rfl, ?_, ?_⟩
      · split <;> omega
      · split <;> omega
    have OK2 := Lib.hid (up_ok OK.out hi hz0 hz1)
    have HD := Lib.hid (hC.set i z (by rw [tab_len]; exact hi))
    have HP := Lib.hid (hO4.rd.other (r := q) (i := i) (v := .int .i64 z) (by omega))
    have HK := Lib.hid (hK4.setAt (i := i) hq2 (.int .i64 z))
    have HZ := Lib.hid hz
    have i1 : (i : Int) < (n : Int) := by omega
    clear hC hO4 hK4 hz
    go_wp2_with fail
    go_cut [15] (fun s15 wx => s15 = .slice (some ⟨q, 0, none⟩) n c ∧ Own wx q (tab n (up v i z)) ∧ Rd wx p 0 (tab n (dl u v n s)) ∧ Kept w wx)
    case first =>
      have wr : IntKind.i64.wrap (v i + m) = v i + m := IntWalk.i64_in _ (by omega)
      go_region_with (first | (go_at_call 18; refine (WC.out _).mono ?_; rintro e w5 ⟨rfl, rfl⟩))
      all_goals go_wp2
      all_goals go_meet
      all_goals exact ⟨rfl, votes_end HD.out HP.out HK.out (by rw [HZ.out]; split <;> omega)⟩
    case rest =>
      clear HD HP HK WC hc hf ql HZ
      obtain ⟨rfl, hD, hP, hK⟩ := hcut
      go_wp2_with fail
      refine (deal_yes u s _ n _ (up v i z) _ (Arg.of hD.rd) u0 h2 OK2.out).mono ?_
      rintro e w5 ⟨r, hr, rfl, hO2, hK5⟩
      have V := Lib.hid (Fr.votes (fun q hq => (OK.out.wts q hq).1) (fun q hq => (OK2.out.wts q hq).1) (dl_fr (way := u) (fun q hq => (OK.out.wts q hq).1) OK.out.T0 s).1 (dl_fr (way := u) (fun q hq => (OK2.out.wts q hq).1) OK2.out.T0 s).1
        (by rw [(dl_fr (way := u) (fun q hq => (OK.out.wts q hq).1) OK.out.T0 s).2, (dl_fr (way := u) (fun q hq => (OK2.out.wts q hq).1) OK2.out.T0 s).2]) i hi (by rw [up_same]; exact hz0) (fun k _ ki => up_ne v z ki))
      have hKw := hK.trans hK5
      have HP := Lib.hid (hP.later hK5)
      have HQ := Lib.hid hO2.rd
      have BD1 := Lib.hid (fun j => dl_nn u v n s j)
      have BD2 := Lib.hid (fun j => dl_nn u (up v i z) n s j)
      generalize dl u v n s = x at *
      generalize dl u (up v i z) n s = y at *
      clear hD hP hK hK5 hr hO2
      go_wp2_with fail
      go_loopw [89] (fun t wr => ∃ k : Nat, k ≤ n ∧ t = .int .i64 k ∧ Drew w5 wr) (fun t _ => (n - intOf t).toNat)
      case atStart => exact ⟨0, by omega, rfl, Drew.refl _⟩
      case round =>
        obtain ⟨k, hk, rfl, hD⟩ := hrel
        by_cases hlt : k < n
        · have h1 := (HP.out.later hD.kept).cell k (by rw [tab_len]; exact hlt)
          have h2 := (HQ.out.later hD.kept).cell k (by rw [tab_len]; exact hlt)
          rw [tab_get] at h1 h2
          rw [Nat.zero_add] at h1 h2
          have xb := BD1.out k
          have yb := BD2.out k
          have HDD := Lib.hid hD
          have k1 : (k : Int) < (n : Int) := by omega
          have fin : ((k : Int) == (i : Int)) = true ∧ decide (y k < x k) = false ∧ ((k : Int) != (i : Int)) = false ∨ ((k : Int) == (i : Int)) = false ∧ ((k : Int) != (i : Int)) = true ∧ decide (x k < y k) = false := by
            by_cases e : k = i
            · left
              have := V.out.1
              subst e
              refine ⟨by simp, by simp; omega, by simp⟩
            · right
              have := V.out.2 k hlt e
              refine ⟨by rw [beq_eq_false_iff_ne]; omega, by rw [bne_iff_ne]; omega, by simp; omega⟩
          clear hD
          rcases fin with ⟨f1, f2, f3⟩ | ⟨f1, f2, f3⟩
          all_goals
            go_wp2_with fail
            go_quiet (fail)
            go_wp2
            go_roundw
            case rel => exact ⟨k + 1, by omega, by go_num, HDD.out.drewN _⟩
            case measure => simp [intOf]; omega
        · obtain rfl : k = n := by omega
          clear hlt
          go_wp2
          go_ret
          exact ⟨rfl, hKw.trans hD.kept⟩
  · have nb : (dealE u s n v != 0) = true := by rw [bne_iff_ne]; exact he
    have HE := Lib.hid he
    clear he
    go_wp2_with fail
    refine (deal_no u s _ n _ v _ hn hA2 HE.out).mono ?_
    rintro e w3 ⟨rfl, rfl⟩
    go_wp2
    go_ret
    exact ⟨rfl, hK2⟩

end Go.Proofs.Ytpkdknddncnceaa
