/-
  The law SplitAhead returns true: by each part there is, in all, no more than its share, and less than one less. No condition.
-/
import Derived.Test.YtkbbofpjelgiiabLawSplitEven
namespace Go.Proofs.Ytkbbofpjelgiiab
open Go.RowKit

theorem even_52 : tab 2 (evV (-5) 2) = [-2, -3] := by decide
theorem evV_upto (a : Int) (n k : Nat) (h : 0 ≤ a) : sumTo (evV a n) k = evC a n k := by
  unfold evV sg
  rw [show (fun i => if a < 0 then -(evP (a.natAbs : Int) n i) else evP (a.natAbs : Int) n i) = evP a n by
    funext i; rw [if_neg (by omega), show ((a.natAbs : Nat) : Int) = a by omega]]
  unfold evP
  rw [sumTo_tele (evC a n), evC_zero]; omega
theorem Rd.take {w : World} {p off n : Nat} {g : Nat → Int} (h : Rd w p off (tab n g)) (k : Nat) (hk : k ≤ n) : Rd w p off (tab k g) :=
  ⟨h.lt, fun j hj => by
    rw [tab_len] at hj
    have := h.cell j (by rw [tab_len]; omega)
    rw [tab_get] at this ⊢; exact this⟩

set_option maxRecDepth 100000 in
set_option maxHeartbeats 4000000 in
theorem splitAhead_walk (b m t : Int) (w : World) :
    Calls Try.prog 8 #[.int .i64 b, .int .i64 m, .int .i64 t] w fun e w' => e = .returned (.bool true) ∧ Kept w w' := by
  go_enter Try.func8, Try.ntmps8
  go_wp2_with fail
  refine (even_yes (-5) 2 _ (by decide) (by omega) (by omega)).mono ?_
  rintro e w1 ⟨p, hp, rfl, hO, hK⟩
  go_wp2_with fail
  have hQ := (Own.lit (w := w1) (l := [-2, -3]) (t := 3) rfl).rd
  rw [← even_52] at hQ
  refine (equal_yes (evV (-5) 2) _ _ _ _ _ _ 2 _ (by omega) (hO.rd.later ((Kept.refl w1).alloc _)) hQ).mono ?_
  rintro e w2 ⟨rfl, hd⟩
  have hK2 := (hK.alloc _).trans hd.kept
  clear hO hK hd hQ
  go_wp2_with fail
  refine (within_any _ _ _ (by omega) (by omega)).mono ?_
  rintro e w3 ⟨a, a0, a1, rfl, rfl⟩
  go_wp2_with fail
  refine (within_any _ _ _ (by omega) (by omega)).mono ?_
  rintro e w3 ⟨r, r0, r1, rfl, rfl⟩
  obtain ⟨n, hn⟩ := Int.eq_ofNat_of_zero_le (show 0 ≤ 1 + r by omega)
  obtain rfl : r = (n : Int) - 1 := by omega
  clear hn
  go_wp2_with fail
  rw [show (1 + ((n : Int) - 1)) = (n : Int) by omega]
  have HA := Lib.hid (show amB a = true by rw [am_iff]; omega)
  refine (even_yes a n _ HA.out (by omega) (by omega)).mono ?_
  rintro e w3 ⟨q, hq, rfl, hO, hK⟩
  have hK3 := hK2.trans hK
  clear hK2 hK
  go_wp2_with fail
  refine (within_any _ _ _ (by omega) (by omega)).mono ?_
  rintro e w4 ⟨s, s0, s1, rfl, rfl⟩
  obtain ⟨k, rfl⟩ := Int.eq_ofNat_of_zero_le s0
  have hkn : k ≤ n := by omega
  have HU := Lib.hid (evV_upto a n k a0)
  have BD := Lib.hid (fun j (hj : j < n) => evV_bd a n j (by omega) hj (by omega) (by omega))
  have CS := Lib.hid (evC_spec a n k (by omega))
  have CB := evC_bd a n k a0 (by omega) hkn
  have b1 := mulk_bd a k a0 (by omega) (by omega)
  have b2 := mulk_bd (evC a n k) n CB.1 (by omega) (by omega)
  have b3 : 0 ≤ (evC a n k + 1) * (n : Int) ∧ (evC a n k + 1) * (n : Int) ≤ 50000000000000 := by rw [Int.add_mul]; omega
  go_wp2_with fail
  refine (sum_any (evV a n) _ _ k _ _ (by omega) (fun j hj => by have := BD.out j (by omega); omega) (hO.rd.take k hkn)).mono ?_
  rintro e w4 ⟨rfl, rfl⟩
  rw [HU.out]
  have t1 : decide (evC a n k * (n : Int) ≤ a * (k : Int)) = true := by simpa using CS.out.1
  have t2 : decide (a * (k : Int) < (evC a n k + 1) * (n : Int)) = true := by simpa using CS.out.2
  generalize evC a n k = C at *
  go_wp2
  go_ret
  exact ⟨ret_bool (by simp <;> (have := CS.out; omega)), hK3⟩

end Go.Proofs.Ytkbbofpjelgiiab
