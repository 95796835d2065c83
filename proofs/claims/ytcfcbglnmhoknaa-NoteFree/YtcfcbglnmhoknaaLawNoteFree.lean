/-
  The law NoteFree returns true: without interest, the number of periods is the loan divided by the payment, rounded up, and the least payment is the loan divided by the periods, rounded up. No condition.
-/
import Derived.Test.YtcfcbglnmhoknaaKWalkB
namespace Go.Proofs.Ytcfcbglnmhoknaa
open Go.RowKit

theorem er_7 : erL 7 0 3 = 0 := erL_of (by decide) (by omega) (by omega) (by decide) (bal_stay (by omega) 3 (by decide) 40 (by omega))
theorem cnt_7 : cnt 0 3 40 7 = 3 := cnt_first 40 7 (by omega) (by decide) (by decide)
theorem off_7 : (rwF 0 3 7).o 2 = 1 := by decide
theorem free_rows {L p q : Int} {n : Nat} (h : Lst 0 L n p) (L1 : 1 ≤ L) (L2 : L ≤ 1000000000000) (n40 : n ≤ 40) (pq : p ≤ q) (q2 : q ≤ 2000000000000) : erL L 0 q = 0 ∧ ((cnt 0 q 40 L : Nat) : Int) = (L + q - 1) / q := by
  have p1 := h.one
  have b40 : bal 0 p L 40 = 0 := bal_stay (by omega) n h.pays 40 n40
  have m := bal_mono (p := q) (q := p) (show 0 ≤ L by omega) (Int.le_refl L) (Int.le_refl 0) (Int.le_refl 0) pq 40
  have z := bal_nonneg 0 q (show 0 ≤ L by omega) 40
  have b : bal 0 q L 40 = 0 := by omega
  exact ⟨erL_of ((okL_iff L 0).2 ⟨by omega, by omega, by omega, by omega⟩) (by omega) q2 (by rw [itR_free]; omega) b, cnt_free L1 (by omega) b⟩
set_option maxRecDepth 100000 in
set_option maxHeartbeats 4000000 in
theorem noteFree_walk (o0 p0 n0 : Int) (w : World) :
    Calls Try.prog 7 #[.int .i64 o0, .int .i64 p0, .int .i64 n0] w fun e w' => e = .returned (.bool true) ∧ Kept w w' := by
  go_enter Try.func7, Try.ntmps7
  go_wp2_with fail
  refine (rows_yes 7 0 3 _ er_7).mono ?_
  rintro e w1 ⟨a, c, rfl, hG, hK1⟩
  rw [cnt_7] at hG ⊢
  obtain ⟨q, c', e', _, hc⟩ := hG.at (by omega)
  injection e' with e1 e2 e3
  subst e1 e3
  have x1 := hG.rd.c1 2 (by omega)
  rw [off_7] at x1
  clear hG
  go_wp2_with fail
  refine (within_any _ _ _ (by omega) (by omega)).mono ?_
  rintro e w3 ⟨L, a1, a2, rfl, rfl⟩
  go_wp2_with fail
  refine (within_any _ _ _ (by omega) (by omega)).mono ?_
  rintro e w3 ⟨t, t1, t2, rfl, rfl⟩
  clear x1
  obtain ⟨n, hn⟩ := Int.eq_ofNat_of_zero_le (show 0 ≤ 1 + t by omega)
  obtain rfl : t = (n : Int) - 1 := by omega
  clear hn
  have n1 : 1 ≤ n := by omega
  have n40 : n ≤ 40 := by omega
  obtain ⟨M, hM⟩ : ∃ M, 1 + L = M := ⟨_, rfl⟩
  obtain rfl : L = M - 1 := by omega
  have K1 := Lib.hid ((okL_iff M 0).2 ⟨by omega, by omega, by omega, by omega⟩)
  clear hM
  go_wp2_with fail
  rw [show (1 + ((n : Int) - 1)) = (n : Int) by omega, show 1 + (M - 1) = M by omega]
  refine (least_yes _ _ n _ K1.out n1 n40).mono ?_
  rintro e w2 ⟨p, hp, pb, rfl, hK2⟩
  have M1 : 1 ≤ M := by omega
  have pe := hp.eq (lst_free M1 n1)
  have P := Lib.hid hp
  have hK := hK1.trans hK2
  have p1 := hp.one
  have tp := hp.top n1 (by omega) (by omega)
  rw [itR_free] at tp
  have nz : ((n : Int) == 0) = false := by rw [beq_eq_false_iff_ne]; omega
  have td : (M + (n : Int) - 1).tdiv (n : Int) = p := by rw [pe, Int.tdiv_eq_ediv_of_nonneg (by omega)]
  clear hp hK1 hK2 pe
  go_wp2_with fail
  refine (within_any _ _ _ (by omega) (by omega)).mono ?_
  rintro e w3 ⟨s, s1, s2, rfl, rfl⟩
  obtain ⟨Q, hQ⟩ : ∃ Q, p + s = Q := ⟨_, rfl⟩
  obtain rfl : s = Q - p := by omega
  obtain ⟨e0, ce⟩ := free_rows P.out M1 (by omega) n40 (show p ≤ Q by omega) (by omega)
  have E := Lib.hid e0
  have td2 : (M + Q - 1).tdiv Q = ((cnt 0 Q 40 M : Nat) : Int) := by rw [ce, Int.tdiv_eq_ediv_of_nonneg (by omega)]
  have qz : (Q == 0) = false := by rw [beq_eq_false_iff_ne]; omega
  have cl := cnt_le 0 Q 40 M
  clear e0 ce td nz hQ
  go_wp2_with fail
  rw [show p + (Q - p) = Q by omega]
  refine (rows_yes _ _ _ _ E.out).mono ?_
  rintro e w4 ⟨a', c', rfl, _, hK4⟩
  generalize cnt 0 Q 40 M = k at *
  go_wp2
  go_ret
  exact ⟨rfl, hK.trans hK4⟩

end Go.Proofs.Ytcfcbglnmhoknaa
