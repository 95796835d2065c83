/-
  What the reference's Lowest, Told, Mul and Round return. No condition but the bounds that each theorem names.
-/
import Derived.Test.YtkbbofpjelgiiaaFWalkR
import Derived.Test.YtkbbofpjelgiiaaFMul
namespace Go.Proofs.Ytkbbofpjelgiiaa
open Go.RowKit

theorem gz_gcd (n d : Int) : gz (n.natAbs : Int) d = (Nat.gcd d.toNat n.natAbs : Nat) := by
  unfold gz; rw [Int.toNat_natCast, Nat.gcd_comm]
set_option maxHeartbeats 1000000 in
theorem rlowest_any (n d : Int) (w : World) (h0 : -4000000000000000000 ≤ n) (h1 : n ≤ 4000000000000000000) (hd : 1 ≤ d) (hd1 : d ≤ 4000000000000000000) :
    Calls Try.prog 17 #[fr2 n d] w fun e w' => e = .returned (fr2 (lN n d) (lD n d)) ∧ Kept w w' := by
  have g := gcd_pos n d hd
  have gd : Nat.gcd d.toNat n.natAbs ≤ 4000000000000000000 := by
    have := Nat.gcd_le_left n.natAbs (show 0 < d.toNat by omega)
    omega
  have b := lN_bd n d _ hd h0 h1
  have c := lD_bd n d hd
  have c0 := lD_pos n d
  have T1 := Lib.hid (lN_tdiv n d hd)
  have T2 := Lib.hid (lD_div n d hd)
  have HE := Lib.hid (gz_gcd n d)
  go_enter Try.func17, Try.ntmps17
  go_wp2
  go_quiet (first | (go_at_call 34; exact quiet_same (rabs_any _ _ h0 h1)) | (go_at_call 33; exact quiet_same (rgcd_any _ _ _ _ (Nat.le_refl _) (by omega) (by omega) (by omega) (by omega))))
  rw [HE.out]
  clear HE
  generalize Nat.gcd d.toNat n.natAbs = G at *
  have g' : (1 : Int) ≤ (G : Int) := by omega
  have gz : ((G : Int) == 0) = false := by rw [beq_eq_false_iff_ne]; omega
  go_wp2
  go_region
  rw [T1.out, T2.out]
  go_wp2
  exact bodyPost_ret (v := fr2 (lN n d) (lD n d)) (by simp [results, Try.results17, go_sem]) rfl ⟨rfl, (((((Kept.refl w).alloc _).alloc _).drewN _).setCell (by simp) _).setCell (by simp) _⟩

theorem rowfr_1 (w : World) (a b : Int) (t : TypeId) : RowFr (w.alloc (.cells #[.int .i64 a, .int .i64 b] t)) w.heap.size [(a, b)] := by
  refine ⟨by simp, fun j hj => ?_⟩
  obtain rfl : j = 0 := by simp at hj; omega
  simp
theorem rowfr_2 (w : World) (a b c d : Int) (t : TypeId) : RowFr (w.alloc (.cells #[.int .i64 a, .int .i64 b, .int .i64 c, .int .i64 d] t)) w.heap.size [(a, b), (c, d)] := by
  refine ⟨by simp, fun j hj => ?_⟩
  rcases (show j = 0 ∨ j = 1 by simp at hj; omega) with rfl | rfl
  · simp
  · simp
theorem rfrac_1 (a b : Int) (p : Nat) (w : World) (t : TypeId) (hp : w.heap.size = p) :
    Calls Try.prog 15 #[.slice (some ⟨p, 0, none⟩) 1 1] (w.alloc (.cells #[.int .i64 a, .int .i64 b] t)) fun e w' => e = .returned (.int .i64 (chk a b)) ∧ Kept w w' := by
  subst hp
  refine (rfrac_any [(a, b)] w.heap.size _ (by simp) (rowfr_1 w a b t)).mono ?_
  rintro e w' ⟨rfl, hk⟩
  exact ⟨by rw [chkL_1], ((Kept.refl w).alloc _).trans hk⟩
theorem rfrac_2 (a b c d : Int) (p : Nat) (w : World) (t : TypeId) (hp : w.heap.size = p) :
    Calls Try.prog 15 #[.slice (some ⟨p, 0, none⟩) 2 2] (w.alloc (.cells #[.int .i64 a, .int .i64 b, .int .i64 c, .int .i64 d] t)) fun e w' => e = .returned (.int .i64 (chk2 a b c d)) ∧ Kept w w' := by
  subst hp
  refine (rfrac_any [(a, b), (c, d)] w.heap.size _ (by simp) (rowfr_2 w a b c d t)).mono ?_
  rintro e w' ⟨rfl, hk⟩
  exact ⟨by rw [chkL_2], ((Kept.refl w).alloc _).trans hk⟩

set_option maxHeartbeats 1000000 in
theorem rtold_any (n d : Int) (w : World) (h0 : -4000000000000000000 ≤ n) (h1 : n ≤ 4000000000000000000) (hd : 1 ≤ d) (hd1 : d ≤ 4000000000000000000) :
    Calls Try.prog 18 #[fr2 n d] w fun e w' => e = .returned (.tuple #[fr2 (bN (lN n d) (lD n d)) (bD (lN n d) (lD n d)), .int .i64 (bE (lN n d) (lD n d))]) ∧ Kept w w' := by
  go_enter Try.func18, Try.ntmps18
  go_wp2_with fail
  refine (rlowest_any _ _ _ h0 h1 hd hd1).mono ?_
  rintro e w1 ⟨rfl, hk1⟩
  obtain ⟨hA, hB, hK⟩ := two_new w n d 0 0 23
  have hA1 := hA.later hk1
  have hB1 := hB.later hk1
  have hk := hK.trans hk1
  clear hA hB hK hk1 h0 h1 hd hd1
  obtain ⟨lt, c0, c1, f0, f1⟩ := id hA1
  go_wp2_with fail
  have hA2 := hA1.set (n' := (lN n d)) (d' := (lD n d))
  have hB2 := (hB1.other (r := w.heap.size) (i := 0) (v := .int .i64 (lN n d)) (by omega)).other (r := w.heap.size) (i := 1) (v := .int .i64 (lD n d)) (by omega)
  have hk2 := (hk.setAt (b := w.heap.size) (i := 0) (by omega) (.int .i64 (lN n d))).setAt (b := w.heap.size) (i := 1) (by omega) (.int .i64 (lD n d))
  refine (rfrac_1 (lN n d) (lD n d) _ _ _ (by simp)).mono ?_
  rintro e w2 ⟨rfl, hk3⟩
  obtain ⟨lt2, d0, d1, g0, g1⟩ := hA2.later hk3
  obtain ⟨lt3, z0, z1, e0, e1⟩ := hB2.later hk3
  have hk4 := hk2.trans hk3
  clear hA1 hB1 hk lt c0 c1 f0 f1 hA2 hB2 hk2 hk3
  cases ho : okB (lN n d) (lD n d)
  · have hn := chk_ne ho
    have HO := Lib.hid ho
    clear ho
    go_wp2
    exact bodyPost_ret (v := .tuple #[fr2 0 0, .int .i64 2]) (by simp [results, Try.results18, go_sem, z0, z1]) rfl ⟨by unfold bN bD bE; rw [HO.out]; rfl, (hk4.setAt (by omega) _).setAt (by omega) _⟩
  · rw [chk_ok ho]
    have HO := Lib.hid ho
    clear ho
    go_wp2
    exact bodyPost_ret (v := .tuple #[fr2 (lN n d) (lD n d), .int .i64 0]) (by simp [results, Try.results18, go_sem, z0, z1]) rfl ⟨by unfold bN bD bE; rw [HO.out]; rfl, (hk4.setAt (by omega) _).setAt (by omega) _⟩

/-- High and low of a product of two that are no more than 10^12. -/
theorem mul64_far (x y : Nat) (hx : x ≤ 1000000000000) (hy : y ≤ 1000000000000) :
    (1000000000000 < x * y → (0 < x * y / 18446744073709551616 ∨ (x * y / 18446744073709551616 = 0 ∧ 1000000000000 < x * y % 18446744073709551616))) ∧
    (x * y ≤ 1000000000000 → x * y / 18446744073709551616 = 0 ∧ x * y % 18446744073709551616 = x * y) := by
  have := Nat.mul_le_mul hx hy
  generalize x * y = p at *
  omega
theorem low_prod (a b c d : Int) : lN (pN a b c d) (pD a b c d) = pN a b c d ∧ lD (pN a b c d) (pD a b c d) = pD a b c d := by
  unfold lN lD pN pD; rw [q_self]; exact ⟨rfl, rfl⟩

set_option maxHeartbeats 4000000 in
theorem rmul_yes (a b c d : Int) (w : World) (h : okB a b = true) (h' : okB c d = true) :
    Calls Try.prog 19 #[fr2 a b, fr2 c d] w fun e w' => e = .returned (.tuple #[fr2 (bN (pN a b c d) (pD a b c d)) (bD (pN a b c d) (pD a b c d)), .int .i64 (bE (pN a b c d) (pD a b c d))]) ∧ Kept w w' := by
  obtain ⟨h1, h2, h3, h4⟩ := (ok_iff a b).1 h
  obtain ⟨h5, h6, h7, h8⟩ := (ok_iff c d).1 h'
  have o1 := (ok_iff _ _).1 (low_ok h)
  have o2 := (ok_iff _ _).1 (low_ok h')
  clear h h'
  go_enter Try.func19, Try.ntmps19
  go_wp2_with fail
  obtain ⟨hA1, hB1, hC1, hk⟩ := three_new w a b c d 0 0 23
  generalize (((w.alloc (.cells #[.int .i64 a, .int .i64 b] 23)).alloc (.cells #[.int .i64 c, .int .i64 d] 23)).alloc (.cells #[.int .i64 0, .int .i64 0] 23)) = w1 at *
  go_cut [5] (fun s5 wx => Mul3 w (lN a b) (lD a b) (lN c d) (lD c d) s5 wx)
  case first =>
    obtain ⟨lt, c0, c1, f0, f1⟩ := id hA1
    obtain ⟨lt', d0, d1, f0', f1'⟩ := id hB1
    go_region_with (first | (go_at_call 17; refine (rlowest_any _ _ _ (by omega) (by omega) (by omega) (by omega)).mono ?_; rintro e w' ⟨rfl, hk9⟩; have hKx := Kept.trans (a := w) (by first | assumption | exact Kept.drew (by assumption)) hk9; have hAx := Box2.later (p := w.heap.size) (n := a) (d := b) (by first | assumption | exact Box2.drew (by assumption)) hk9; have hBx := Box2.later (p := w.heap.size + 1) (n := c) (d := d) (by first | assumption | exact Box2.drew (by assumption)) hk9; have hCx := Box2.later (p := w.heap.size + 2) (n := 0) (d := 0) (by first | assumption | exact Box2.drew (by assumption)) hk9; clear hk9; obtain ⟨lt, c0, c1, f0, f1⟩ := id hAx; obtain ⟨lt', d0, d1, f0', f1'⟩ := id hBx))
    all_goals go_wp2_with fail
    all_goals go_meet
    all_goals exact mul3_set hAx hBx hCx hKx
  case rest =>
    obtain ⟨rfl, hA, hB, hC, hK⟩ := hcut
    obtain ⟨V, rfl⟩ : ∃ V : World, V = wc := ⟨_, rfl⟩
    obtain ⟨X, XD, Y, YD, hL1, hL2, hE1, hE2⟩ := cross_low' a b c d
    have l1 := lN_bd (lN a b) (lD c d) 1000000000000 (by omega) (by omega) (by omega)
    have l2 := lN_bd (lN c d) (lD a b) 1000000000000 (by omega) (by omega) (by omega)
    have l3 := lD_bd (lN a b) (lD c d) (by omega)
    have l4 := lD_bd (lN c d) (lD a b) (by omega)
    have l5 := lD_pos (lN a b) (lD c d)
    have l6 := lD_pos (lN c d) (lD a b)
    have t1 := lN_tdiv (lN a b) (lD c d) (by omega)
    have t2 := lD_div (lN a b) (lD c d) (by omega)
    have t3 := lN_tdiv (lN c d) (lD a b) (by omega)
    have t4 := lD_div (lN c d) (lD a b) (by omega)
    have g1 := gcd_pos (lN a b) (lD c d) (by omega)
    have g2 := gcd_pos (lN c d) (lD a b) (by omega)
    have g3 : Nat.gcd (lD c d).toNat (lN a b).natAbs ≤ 1000000 := by
      have := Nat.gcd_le_left (lN a b).natAbs (show 0 < (lD c d).toNat by omega)
      omega
    have g4 : Nat.gcd (lD a b).toNat (lN c d).natAbs ≤ 1000000 := by
      have := Nat.gcd_le_left (lN c d).natAbs (show 0 < (lD a b).toNat by omega)
      omega
    have z1 := gz_gcd (lN a b) (lD c d)
    have z2 := gz_gcd (lN c d) (lD a b)
    rw [hL1.1] at l1 t1
    rw [hL1.2] at l3 l5 t2
    rw [hL2.1] at l2 t3
    rw [hL2.2] at l4 l6 t4
    clear hL1 hL2 hA1 hB1 hC1 hk
    generalize lN a b = A at *
    generalize lD a b = B at *
    generalize lN c d = C at *
    generalize lD c d = D at *
    generalize Nat.gcd D.toNat A.natAbs = G at *
    generalize Nat.gcd B.toNat C.natAbs = G' at *
    have T1 := Lib.hid t1
    have T2 := Lib.hid t2
    have T3 := Lib.hid t3
    have T4 := Lib.hid t4
    have Z1 := Lib.hid z1
    have Z2 := Lib.hid z2
    have E1 := Lib.hid hE1
    have E2 := Lib.hid hE2
    clear t1 t2 t3 t4 z1 z2 hE1 hE2
    have m3 := mul_abs XD YD 1000000 1000000 (by omega) (by omega) (by omega) (by omega)
    have m4 : 1 * 1 ≤ XD * YD := Int.mul_le_mul l5 l6 (by omega) (by omega)
    have ge : ((G : Int) == 0) = false := by rw [beq_eq_false_iff_ne]; omega
    have ge' : ((G' : Int) == 0) = false := by rw [beq_eq_false_iff_ne]; omega
    have gi : (1 : Int) ≤ (G : Int) := by omega
    have gi' : (1 : Int) ≤ (G' : Int) := by omega
    obtain ⟨lt, c0, c1, f0, f1⟩ := id hA
    obtain ⟨lt', d0, d1, f0', f1'⟩ := id hB
    go_wp2_with fail
    go_quiet (first | (go_at_call 34; exact quiet_same (rabs_any _ _ (by omega) (by omega))) | (go_at_call 33; exact quiet_same (rgcd_any _ _ _ _ (Nat.le_refl _) (by omega) (by omega) (by omega) (by omega))))
    rw [Z1.out, Z2.out]
    go_wp2_with fail
    go_quiet (fail)
    rw [T1.out, T3.out]
    clear lt c0 c1 f0 f1 lt' d0 d1 f0' f1' Z1 Z2 T1 T3
    go_wp2_with fail
    refine (rabs_any _ _ (by omega) (by omega)).mono ?_
    rintro e w3 ⟨rfl, hw3⟩
    have hA3 : Box2 w3 w.heap.size A B := by rw [← hw3]; exact hA.drewN _
    have hB3 : Box2 w3 (w.heap.size + 1) C D := by rw [← hw3]; exact hB.drewN _
    have hC3 : Box2 w3 (w.heap.size + 2) 0 0 := by rw [← hw3]; exact hC.drewN _
    have hK3 : Kept w w3 := by rw [← hw3]; exact hK.drewN _
    clear hA hB hC hK hw3
    go_wp2_with fail
    refine (rabs_any _ _ (by omega) (by omega)).mono ?_
    rintro e w4 ⟨rfl, rfl⟩
    have x1 : X.natAbs ≤ 1000000000000 := by omega
    have y1 : Y.natAbs ≤ 1000000000000 := by omega
    have F := Lib.hid (mul64_far X.natAbs Y.natAbs x1 y1)
    have P := Lib.hid (show ((X * Y).natAbs = X.natAbs * Y.natAbs) from Int.natAbs_mul X Y)
    go_wp2_with fail
    refine (Try.bits_Mul64 X.natAbs Y.natAbs (by omega) (by omega) _).mono ?_
    rintro e w4 ⟨rfl, rfl⟩
    generalize hH : X.natAbs * Y.natAbs / 18446744073709551616 = hi at *
    generalize hL : X.natAbs * Y.natAbs % 18446744073709551616 = lo at *
    have f := F.out
    rw [← P.out] at f
    have F' := Lib.hid f
    clear F f hH hL
    obtain ⟨lt5, z0, z1, g0, g1'⟩ := id hC3
    by_cases hf : 1000000000000 < (X * Y).natAbs
    · have OB := Lib.hid (show okB (pN a b c d) (pD a b c d) = false by
        cases z : okB (pN a b c d) (pD a b c d)
        · rfl
        · have := (ok_iff _ _).1 z
          rw [← E1.out] at this; omega)
      rcases F'.out.1 hf with k | ⟨k1, k2⟩
      · have kb : decide ((0 : Int) < (hi : Int)) = true := by simp; omega
        clear F' hf
        go_wp2
        exact bodyPost_ret (v := .tuple #[fr2 0 0, .int .i64 2]) (by simp [results, Try.results19, go_sem, z0, z1]) rfl ⟨by unfold bN bD bE; rw [OB.out]; rfl, (hK3.setAt (by omega) _).setAt (by omega) _⟩
      · subst k1
        have kb : decide ((1000000000000 : Int) < (lo : Int)) = true := by simp; omega
        clear F' hf
        go_wp2
        exact bodyPost_ret (v := .tuple #[fr2 0 0, .int .i64 2]) (by simp [results, Try.results19, go_sem, z0, z1]) rfl ⟨by unfold bN bD bE; rw [OB.out]; rfl, (hK3.setAt (by omega) _).setAt (by omega) _⟩
    · obtain ⟨k1, k2⟩ := F'.out.2 (by omega)
      subst k1
      have kb : decide ((1000000000000 : Int) < (lo : Int)) = false := by simp; omega
      have mz : -1000000000000 ≤ X * Y ∧ X * Y ≤ 1000000000000 := mul_in X Y (by omega)
      have LP := Lib.hid (low_prod a b c d)
      have q3 : -(1000000 * 1000000) ≤ YD * XD ∧ YD * XD ≤ 1000000 * 1000000 := by rw [Int.mul_comm YD XD]; exact m3
      have q4 : 1 ≤ YD * XD := by rw [Int.mul_comm YD XD]; omega
      have E3 := Lib.hid (show YD * XD = pD a b c d by rw [Int.mul_comm YD XD]; exact E2.out)
      clear F' hf k2
      obtain ⟨lt, c0, c1, f0, f1⟩ := id hA3
      obtain ⟨lt', d0, d1, f0', f1'⟩ := id hB3
      have r3 : -(1000000 * 1000000) ≤ B / (G' : Int) * (D / (G : Int)) ∧ B / (G' : Int) * (D / (G : Int)) ≤ 1000000 * 1000000 := by rw [T4.out, T2.out]; exact q3
      have r4 : 1 ≤ B / (G' : Int) * (D / (G : Int)) := by rw [T4.out, T2.out]; exact q4
      have E4 := Lib.hid (show B / (G' : Int) * (D / (G : Int)) = pD a b c d by rw [T4.out, T2.out]; exact E3.out)
      have wr1 : IntKind.i64.wrap (X * Y) = X * Y := IntWalk.i64_in _ (by omega)
      have wr2 : IntKind.i64.wrap (B / (G' : Int) * (D / (G : Int))) = B / (G' : Int) * (D / (G : Int)) := IntWalk.i64_in _ (by omega)
      go_wp2_with fail
      go_region_with (first | (go_at_call 18; clear wr1 wr2; refine (rtold_any _ _ _ (by omega) (by omega) (by omega) (by omega)).mono ?_; rintro e w' ⟨rfl, hk9⟩; have hKx := Kept.trans hK3.drew hk9; obtain ⟨lt6, y0, y1, j0, j1⟩ := hC3.drew.later hk9; clear hk9))
      all_goals rw [E1.out, E4.out, LP.out.1, LP.out.2]
      all_goals go_wp2
      all_goals exact bodyPost_ret (v := .tuple #[fr2 (bN (pN a b c d) (pD a b c d)) (bD (pN a b c d) (pD a b c d)), .int .i64 (bE (pN a b c d) (pD a b c d))]) (by simp [results, Try.results19, go_sem, y0, y1]) rfl ⟨rfl, (hKx.setAt (by omega) _).setAt (by omega) _⟩

end Go.Proofs.Ytkbbofpjelgiiaa
