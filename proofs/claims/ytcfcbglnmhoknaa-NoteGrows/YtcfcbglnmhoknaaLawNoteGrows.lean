/-
  The law NoteGrows returns true: the least payment grows with the loan and the rate, and falls with the number of periods. No condition.
-/
import Derived.Test.YtcfcbglnmhoknaaKWalkB
namespace Go.Proofs.Ytcfcbglnmhoknaa
open Go.RowKit

theorem lst_110 : Lst 100000 100 1 110 := Lst.of (by omega) (by omega) (by omega) (by decide) (.inr (by decide))
theorem lst_more {r s L M p q : Int} {n : Nat} (h : Lst r L n p) (k : Lst s M n q) (L0 : 0 ≤ L) (LM : L ≤ M) (r0 : 0 ≤ r) (rs : r ≤ s) : p ≤ q := by
  refine h.le k.one ?_
  have a := bal_mono (p := q) (q := q) L0 LM r0 rs (Int.le_refl q) n
  have b := bal_nonneg r q L0 n
  have c := k.pays
  omega
theorem lst_fewer {r L p q : Int} {n m : Nat} (h : Lst r L n p) (k : Lst r L m q) (mn : m ≤ n) : p ≤ q :=
  h.le k.one (bal_stay (by have := k.one; omega) m k.pays n mn)
set_option maxRecDepth 100000 in
set_option maxHeartbeats 4000000 in
theorem noteGrows_walk (o0 m0 t0 u0 n0 l0 : Int) (w : World) :
    Calls Try.prog 8 #[.int .i64 o0, .int .i64 m0, .int .i64 t0, .int .i64 u0, .int .i64 n0, .int .i64 l0] w fun e w' => e = .returned (.bool true) ∧ Kept w w' := by
  go_enter Try.func8, Try.ntmps8
  go_wp2_with fail
  refine (least_yes 100 100000 1 _ (by decide) (by omega) (by omega)).mono ?_
  rintro e w1 ⟨p, hp, pb, rfl, hK1⟩
  obtain rfl := hp.eq lst_110
  clear hp pb
  go_wp2_with fail
  refine (within_any _ _ _ (by omega) (by omega)).mono ?_
  rintro e w3 ⟨L, a1, a2, rfl, rfl⟩
  go_wp2_with fail
  refine (within_any _ _ _ (by omega) (by omega)).mono ?_
  rintro e w3 ⟨M, b1, b2, rfl, rfl⟩
  go_wp2_with fail
  refine (within_any _ _ _ (by omega) (by omega)).mono ?_
  rintro e w3 ⟨r, c1, c2, rfl, rfl⟩
  go_wp2_with fail
  refine (within_any _ _ _ (by omega) (by omega)).mono ?_
  rintro e w3 ⟨u, d1, d2, rfl, rfl⟩
  go_wp2_with fail
  refine (within_any _ _ _ (by omega) (by omega)).mono ?_
  rintro e w3 ⟨t, t1, t2, rfl, rfl⟩
  obtain ⟨n, hn⟩ := Int.eq_ofNat_of_zero_le (show 0 ≤ 1 + t by omega)
  obtain rfl : t = (n : Int) - 1 := by omega
  clear hn
  have n1 : 1 ≤ n := by omega
  have n40 : n ≤ 40 := by omega
  have K1 := Lib.hid ((okL_iff L r).2 ⟨by omega, by omega, by omega, by omega⟩)
  have K2 := Lib.hid ((okL_iff (L + M) r).2 ⟨by omega, by omega, by omega, by omega⟩)
  have K3 := Lib.hid ((okL_iff L (r + u)).2 ⟨by omega, by omega, by omega, by omega⟩)
  go_wp2_with fail
  rw [show (1 + ((n : Int) - 1)) = (n : Int) by omega]
  refine (least_yes _ _ n _ K1.out n1 n40).mono ?_
  rintro e w2 ⟨p, hp, pb, rfl, hK2⟩
  have P := Lib.hid hp
  have hK := hK1.trans hK2
  clear hp hK1 hK2
  go_wp2_with fail
  refine (least_yes _ _ n _ K2.out n1 n40).mono ?_
  rintro e w4 ⟨x, hx, xb, rfl, hK4⟩
  have X := Lib.hid hx
  have hK5 := hK.trans hK4
  clear hx hK hK4
  go_wp2_with fail
  refine (least_yes _ _ n _ K3.out n1 n40).mono ?_
  rintro e w5 ⟨y, hy, yb, rfl, hK6⟩
  have Y := Lib.hid hy
  have hK7 := hK5.trans hK6
  clear hy hK5 hK6
  go_wp2_with fail
  refine (within_any _ _ _ (by omega) (by omega)).mono ?_
  rintro e w6 ⟨s, s1, s2, rfl, rfl⟩
  obtain ⟨m, hm⟩ := Int.eq_ofNat_of_zero_le (show 0 ≤ (n : Int) - s by omega)
  obtain rfl : s = (n : Int) - (m : Int) := by omega
  have m1 : 1 ≤ m := by omega
  have mn : m ≤ n := by omega
  clear hm
  go_wp2_with fail
  rw [show ((n : Int) - ((n : Int) - (m : Int))) = (m : Int) by omega]
  refine (least_yes _ _ m _ K1.out m1 (by omega)).mono ?_
  rintro e w7 ⟨z, hz, zb, rfl, hK8⟩
  have px : p ≤ x := lst_more P.out X.out (by omega) (by omega) (by omega) (by omega)
  have py : p ≤ y := lst_more P.out Y.out (by omega) (by omega) (by omega) (by omega)
  have pz : p ≤ z := lst_fewer P.out hz mn
  have hK9 := hK7.trans hK8
  clear hz hK7 hK8
  go_wp2
  go_ret
  exact ⟨rfl, hK9⟩

end Go.Proofs.Ytcfcbglnmhoknaa
