/-
  The walk of taltop.TopOff: it returns true at every input. No condition but those that each theorem names.
-/
import Derived.Test.YtklbikifcebckaaNWalkB
import Derived.Test.YtklbikifcebckaaUWalkR
namespace Go.Proofs.Ytklbikifcebckaa
open Go.RowKit
set_option linter.unusedVariables false

theorem sum_ones (k : Nat) : sumTo (fun _ => (1 : Int)) k = k := by
  induction k with
  | zero => rfl
  | succ k ih => rw [sumTo, ih]; omega
theorem un_ones (a : Int) {n k : Nat} (h : k ≤ n) : unC a n (fun _ => 1) k = a * k / n := by
  unfold unC unS; rw [sum_ones, Int.min_eq_left (by omega)]
theorem rnd_floor (x d : Int) (hd : 1 ≤ d) : 0 ≤ rnd x d 2 - x / d ∧ rnd x d 2 - x / d ≤ 1 := by
  rcases rnd_case x d 2 _ _ rfl rfl (by omega) (by omega) with ⟨h, _⟩ | ⟨h, _⟩ <;> rw [h] <;> omega
theorem fl_floor (cost rest rate : Int) (n k : Nat) (h0 : 0 ≤ rest) (h : rest ≤ cost) (r0 : 0 ≤ rate) (n1 : 1 ≤ n) (hk : k ≤ n) : (cost - rest) * k / n ≤ cost - flV cost rest rate n k := by
  have f := flV_fast cost rest rate n k h0 h r0 hk
  have e : (cost - rest) * k ≤ (cost - flV cost rest rate n k) * n := by
    generalize flV cost rest rate n k = v at *
    generalize (n : Int) = N at *
    have q : (cost - v) * N = (cost - rest) * N - (v - rest) * N := by rw [← Int.sub_mul]; congr 1; omega
    rw [q]
    rw [Int.mul_sub] at f
    omega
  have p : (cost - rest) * k / n ≤ (cost - flV cost rest rate n k) * n / n := Int.ediv_le_ediv (by omega) e
  rw [Int.mul_ediv_cancel _ (by omega)] at p
  exact p
theorem Rd.first {w : World} {p k n : Nat} {g : Nat → Int} (h : Rd w p 0 (tab n g)) (hk : k ≤ n) : Arg w (some ⟨p, 0, none⟩) k g := by
  refine .inr ⟨p, 0, rfl, h.lt, fun j hj => ?_⟩
  have hj' : j < k := by rw [tab_len] at hj; exact hj
  have := h.cell j (by rw [tab_len]; omega)
  rw [tab_get] at this
  rw [tab_get]; exact this
set_option maxRecDepth 100000 in
set_option maxHeartbeats 8000000 in
theorem topOff_walk (c0 r0 q0 n0 k0 : Int) (w : World) :
    Calls Try.prog 10 #[.int .i64 c0, .int .i64 r0, .int .i64 q0, .int .i64 n0, .int .i64 k0] w fun e w' => e = .returned (.bool true) ∧ Kept w w' := by
  go_enter Try.func10, Try.ntmps10
  go_wp2_with fail
  refine (tbegun_any _).mono ?_
  rintro e w1 ⟨rfl, hK1⟩
  go_wp2_with fail
  refine (wnL_any c0 1000000000001 _ (by decide) (by decide)).mono ?_
  rintro e w2 ⟨rfl, rfl⟩
  have C := wnV_bd c0 (n := 1000000000001) (by decide)
  generalize wnV c0 1000000000001 = c at *
  have u1 : IntKind.i64.wrap (c + 1) = c + 1 := IntWalk.i64_in _ (by omega)
  go_wp2_with fail
  refine (wnL_any r0 (c + 1) _ (by omega) (by omega)).mono ?_
  rintro e w2 ⟨rfl, rfl⟩
  have R := wnV_bd r0 (n := c + 1) (by omega)
  generalize wnV r0 (c + 1) = r at *
  clear u1
  go_wp2_with fail
  refine (wnL_any q0 1000001 _ (by decide) (by decide)).mono ?_
  rintro e w2 ⟨rfl, rfl⟩
  have Q := wnV_bd q0 (n := 1000001) (by decide)
  generalize wnV q0 1000001 = q at *
  go_wp2_with fail
  refine (wnL_any n0 40 _ (by decide) (by decide)).mono ?_
  rintro e w2 ⟨rfl, rfl⟩
  have NB := wnV_bd n0 (n := 40) (by decide)
  generalize wnV n0 40 = m at *
  obtain ⟨n, hn⟩ : ∃ n : Nat, 1 + m = n := ⟨(1 + m).toNat, by omega⟩
  have n1 : 1 ≤ n := by omega
  have n40 : n ≤ 40 := by omega
  have u1 : IntKind.i64.wrap (n : Int) = n := IntWalk.i64_in _ (by omega)
  have OK := Lib.hid ((okA_iff c r n).2 ⟨by omega, by omega, by omega, by omega, by omega, by omega⟩)
  have RT := Lib.hid ((rtB_iff q).2 ⟨by omega, by omega⟩)
  have UO := Lib.hid (show UnOk c r n n (fun _ => 1) from ⟨by omega, by omega, by omega, by omega, by omega, by omega, n40, fun i _ => by decide⟩)
  have B1 := Lib.hid (fun i (hi : i < n) => stP_bd (c - r) n n1 (by omega) i hi)
  have B2 := Lib.hid (fun i (hi : i < n) => dgP_bd (c - r) n n1 (by omega) i hi)
  have B3 := Lib.hid (fun i => flP_bd c r q n i (by omega) (by omega) (by omega))
  have B4 := Lib.hid (fun i (hi : i < n) => unP_bd (c - r) n (fun _ => 1) n i (by omega) (by omega) (fun j _ => by decide) hi)
  have S1 := Lib.hid (fun k => show sumTo (dif (stC (c - r) n)) k = stC (c - r) n k by rw [sum_dif, stC_zero _ _ n1]; omega)
  have S2 := Lib.hid (fun k => show sumTo (dif (dgC (c - r) n)) k = dgC (c - r) n k by rw [sum_dif, dgC_zero _ _ n1]; omega)
  have S3 := Lib.hid (fun k => flP_sum c r q n k)
  have S4 := Lib.hid (fun k => show sumTo (dif (unC (c - r) n (fun _ => 1))) k = unC (c - r) n (fun _ => 1) k by rw [sum_dif, unC_zero _ _ _ (by omega)]; omega)
  have A1 := Lib.hid (show sumTo (dif (stC (c - r) n)) n = c - r by rw [S1.out, stC_all _ _ n1])
  have A2 := Lib.hid (show sumTo (dif (dgC (c - r) n)) n = c - r by rw [S2.out, dgC_all _ _ n1])
  have A3 := Lib.hid (show sumTo (flP c r q n) n = c - r by rw [S3.out, flV_end c r q n (by omega) (by omega) (by omega) n1])
  have A4 := Lib.hid (show sumTo (dif (unC (c - r) n (fun _ => 1))) n = c - r by rw [S4.out, unC_all _ _ _ _ (by omega) (by rw [sum_ones]; omega)])
  have F := Lib.hid (fun k (hk : k ≤ n) => show sumTo (dif (stC (c - r) n)) k ≤ sumTo (dif (dgC (c - r) n)) k ∧ sumTo (dif (unC (c - r) n (fun _ => 1))) k ≤ sumTo (flP c r q n) k ∧ 0 ≤ sumTo (dif (stC (c - r) n)) k - sumTo (dif (unC (c - r) n (fun _ => 1))) k ∧ sumTo (dif (stC (c - r) n)) k - sumTo (dif (unC (c - r) n (fun _ => 1))) k ≤ 1 by
    rw [S1.out, S2.out, S3.out, S4.out, un_ones _ hk]
    have a := rnd_floor ((c - r) * k) n (by omega)
    exact ⟨dg_st (c - r) n k n1 (by omega) hk, fl_floor c r q n k (by omega) (by omega) (by omega) n1 hk, a.1, a.2⟩)
  clear NB
  go_wp2_with fail
  refine (straight_yes _ _ _ _ OK.out).mono ?_
  rintro e w3 ⟨p1, hp1, rfl, hX, hK3⟩
  generalize dif (stC (c - r) n) = x at *
  go_wp2_with fail
  refine (digits_yes _ _ _ _ OK.out).mono ?_
  rintro e w4 ⟨p2, hp2, rfl, hY, hK4⟩
  generalize dif (dgC (c - r) n) = y at *
  go_wp2_with fail
  refine (falling_yes _ _ _ _ _ OK.out RT.out).mono ?_
  rintro e w5 ⟨p3, hp3, rfl, hZ, hK5⟩
  generalize flP c r q n = z at *
  have kL := (Kept.refl w5).alloc (.cells #[.int .i64 1] 3)
  have RP := Lib.hid (repeat_ones w5.heap.size n 1 (w5.alloc (.cells #[.int .i64 1] 3)) n1 (by omega) (by simp) (by simp))
  go_wp2_with fail
  refine RP.out.mono ?_
  rintro e w6 ⟨p4, hp4, rfl, hU, hK6⟩
  go_wp2_with fail
  refine (units_yes _ _ _ _ _ _ _ _ UO.out (.inr ⟨p4, 0, rfl, hU.rd⟩)).mono ?_
  rintro e w7 ⟨p5, hp5, rfl, hV, hK7⟩
  generalize dif (unC (c - r) n (fun _ => 1)) = v at *
  have k7 := kL.trans (hK6.trans hK7)
  have R1 := Lib.hid (hX.rd.later (hK4.trans (hK5.trans k7)))
  have R2 := Lib.hid (hY.rd.later (hK5.trans k7))
  have R3 := Lib.hid (hZ.rd.later k7)
  have R4 := Lib.hid hV.rd
  have KF := Lib.hid (hK1.trans (hK3.trans (hK4.trans (hK5.trans k7))))
  clear hX hY hZ hV hU hK3 hK4 hK5 hK6 hK7 kL k7 hK1 hp1 hp2 hp3 hp4 hp5 RP OK UO RT S1 S2 S3 S4
  have u2 : IntKind.i64.wrap ((n : Int) + 1) = (n : Int) + 1 := IntWalk.i64_in _ (by omega)
  go_wp2_with fail
  refine (wnL_any k0 ((n : Int) + 1) _ (by omega) (by omega)).mono ?_
  rintro e w8 ⟨rfl, rfl⟩
  have KB := wnV_bd k0 (n := (n : Int) + 1) (by omega)
  generalize wnV k0 ((n : Int) + 1) = kk at *
  obtain ⟨k, rfl⟩ := Int.eq_ofNat_of_zero_le KB.1
  have hkn : k ≤ n := by omega
  obtain ⟨f1, f2, f3, f4⟩ := F.out k hkn
  have T1 := Lib.hid (fun V (h : Kept w7 V) => tsum_any x k (some ⟨p1, 0, none⟩) n V (by omega) (fun i hi => by have := B1.out i (by omega); omega) ((R1.out.later h).first hkn))
  have T2 := Lib.hid (fun V (h : Kept w7 V) => tsum_any y k (some ⟨p2, 0, none⟩) n V (by omega) (fun i hi => by have := B2.out i (by omega); omega) ((R2.out.later h).first hkn))
  have T3 := Lib.hid (fun V (h : Kept w7 V) => tsum_any z k (some ⟨p3, 0, none⟩) n V (by omega) (fun i hi => by have := B3.out i; omega) ((R3.out.later h).first hkn))
  have T4 := Lib.hid (fun V (h : Kept w7 V) => tsum_any v k (some ⟨p5, 0, none⟩) n V (by omega) (fun i hi => by have := B4.out i (by omega); omega) ((R4.out.later h).first hkn))
  have i0 : (0 : Int) ≤ (k : Int) := by omega
  have i1 : (k : Int) ≤ (n : Int) := by omega
  obtain ⟨c1, c2⟩ := C
  obtain ⟨r1, r2⟩ := R
  have U1 := Lib.hid (fun V (h : Kept w7 V) => tsum_any x n (some ⟨p1, 0, none⟩) n V (by omega) (fun i hi => by have := B1.out i (by omega); omega) ((R1.out.later h).first (Nat.le_refl _)))
  have U2 := Lib.hid (fun V (h : Kept w7 V) => tsum_any y n (some ⟨p2, 0, none⟩) n V (by omega) (fun i hi => by have := B2.out i (by omega); omega) ((R2.out.later h).first (Nat.le_refl _)))
  have U3 := Lib.hid (fun V (h : Kept w7 V) => tsum_any z n (some ⟨p3, 0, none⟩) n V (by omega) (fun i hi => by have := B3.out i; omega) ((R3.out.later h).first (Nat.le_refl _)))
  have U4 := Lib.hid (fun V (h : Kept w7 V) => tsum_any v n (some ⟨p5, 0, none⟩) n V (by omega) (fun i hi => by have := B4.out i (by omega); omega) ((R4.out.later h).first (Nat.le_refl _)))
  rw [A1.out] at U1
  rw [A2.out] at U2
  rw [A3.out] at U3
  rw [A4.out] at U4
  have b1 := sumTo_bd x 1000000000000 k (fun j hj => by have := B1.out j (by omega); omega)
  have b4 := sumTo_bd v 1000000000000 k (fun j hj => by have := B4.out j (by omega); omega)
  have HB1 := Lib.hid b1
  have HB4 := Lib.hid b4
  generalize sumTo x k = X at *
  generalize sumTo y k = Y at *
  generalize sumTo z k = Z at *
  generalize sumTo v k = V at *
  obtain ⟨b11, b12⟩ := b1
  obtain ⟨b41, b42⟩ := b4
  have wd : IntKind.i64.wrap (X - V) = X - V := IntWalk.i64_in _ (by omega)
  have wc : IntKind.i64.wrap (c - r) = c - r := IntWalk.i64_in _ (by omega)
  clear F B1 B2 B3 B4 R1 R2 R3 R4 A1 A2 A3 A4 HB1 HB4 b11 b12 b41 b42 KB
  go_wp2_with fail
  go_quiet ((first
    | (go_at_call_of 43 (p1); exact quiet_same (T1.out _ ((Kept.refl _).drewN _)))
    | (go_at_call_of 43 (p2); exact quiet_same (T2.out _ ((Kept.refl _).drewN _)))
    | (go_at_call_of 43 (p3); exact quiet_same (T3.out _ ((Kept.refl _).drewN _)))
    | (go_at_call_of 43 (p5); exact quiet_same (T4.out _ ((Kept.refl _).drewN _)))))
  go_wp2_with fail
  refine (U1.out _ ((Kept.refl _).drewN _)).mono ?_
  rintro e wa ⟨rfl, rfl⟩
  go_wp2_with fail
  refine (U2.out _ ((Kept.refl _).drewN _)).mono ?_
  rintro e wa ⟨rfl, rfl⟩
  go_wp2_with fail
  refine (U3.out _ ((Kept.refl _).drewN _)).mono ?_
  rintro e wa ⟨rfl, rfl⟩
  go_wp2_with fail
  refine (U4.out _ ((Kept.refl _).drewN _)).mono ?_
  rintro e wa ⟨rfl, rfl⟩
  have g1 : X ≤ Y := f1
  have g2 : V ≤ Z := f2
  have g3 : 0 ≤ X - V := f3
  have g4 : X - V ≤ 1 := f4
  go_wp2
  go_ret
  exact ⟨rfl, KF.out.drewN _⟩
end Go.Proofs.Ytklbikifcebckaa
