/-
  What Cmp and Round of package frac return, and the small functions of the laws: Within, small, fracBegun. No condition but the bounds that each theorem names.
-/
import Derived.Test.YtkbbofpjelgiiaaFWalkB
namespace Go.Proofs.Ytkbbofpjelgiiaa
open Go.RowKit

set_option maxHeartbeats 400000 in
theorem compare_any (x y : Int) (w : World) :
    Calls Try.prog 36 #[.int .i64 x, .int .i64 y] w fun e w' => e = .returned (.int .i64 (cmpV x y)) ∧ w = w' := by
  rcases (show x < y ∨ x = y ∨ y < x by omega) with h | h | h
  · rw [cmpV_lt h]
    go_enter Try.func36, Try.ntmps36
    go_wp2
    go_ret
    exact ⟨rfl, rfl⟩
  · subst h
    rw [cmpV_eq]
    go_enter Try.func36, Try.ntmps36
    go_wp2
    go_ret
    exact ⟨rfl, rfl⟩
  · rw [cmpV_gt h]
    go_enter Try.func36, Try.ntmps36
    go_wp2
    go_ret
    exact ⟨rfl, rfl⟩

set_option maxHeartbeats 400000 in
theorem cmp_no (a b c d : Int) (w : World) (h : chk2 a b c d ≠ 0) :
    Calls Try.prog 20 #[fr2 a b, fr2 c d] w fun e w' => e = .returned (.tuple #[.int .i64 0, .int .i64 (chk2 a b c d)]) ∧ Kept w w' := by
  have hn : (chk2 a b c d != 0) = true := by simpa using h
  clear h
  go_enter Try.func20, Try.ntmps20
  go_wp2_with fail
  refine (checkBoth_any _ _ _ _ _).mono ?_
  rintro e w1 ⟨rfl, hk1⟩
  go_wp2
  go_ret2
  exact ⟨rfl, (((Kept.refl w).alloc _).alloc _).trans hk1⟩

set_option maxHeartbeats 400000 in
theorem cmp_yes (a b c d : Int) (w : World) (h : okB a b = true) (h' : okB c d = true) :
    Calls Try.prog 20 #[fr2 a b, fr2 c d] w fun e w' => e = .returned (.tuple #[.int .i64 (cmpV (a * d) (c * b)), .int .i64 0]) ∧ Kept w w' := by
  have H := Lib.hid ((chk2_iff a b c d).2 ⟨h, h'⟩)
  obtain ⟨h1, h2, h3, h4⟩ := (ok_iff a b).1 h
  obtain ⟨h5, h6, h7, h8⟩ := (ok_iff c d).1 h'
  have m1 := mul_abs a d _ _ h1 h2 (show -1000000 ≤ d by omega) h8
  have m2 := mul_abs c b _ _ h5 h6 (show -1000000 ≤ b by omega) h4
  clear h h'
  go_enter Try.func20, Try.ntmps20
  go_wp2_with fail
  refine (checkBoth_any _ _ _ _ _).mono ?_
  rintro e w1 ⟨rfl, hk1⟩
  rw [H.out]
  obtain ⟨hA, hB, hK⟩ := two_new w a b c d 23
  obtain ⟨lt, c0, c1, f0, f1⟩ := hA.later hk1
  obtain ⟨lt', d0, d1, f0', f1'⟩ := hB.later hk1
  have hk := hK.trans hk1
  clear hA hB hK hk1
  go_wp2_with fail
  refine (compare_any _ _ _).mono ?_
  rintro e w2 ⟨rfl, rfl⟩
  go_wp2
  go_ret2
  exact ⟨rfl, hk⟩

/-- Go's division, and the one that rounds down. -/
theorem tdiv_neg (n d : Int) (hd : 1 ≤ d) (h : n.tmod d < 0) : n.tdiv d - 1 = n / d ∧ n.tmod d + d = n % d := by
  have e := Int.mul_tdiv_add_tmod n d
  have b : -d < n.tmod d := by have := Int.lt_tmod_of_pos n (show 0 < d by omega); omega
  obtain ⟨u, v⟩ := div_unique n d (n.tdiv d - 1) hd (by rw [Int.mul_sub]; omega) (by rw [show n.tdiv d - 1 + 1 = n.tdiv d by omega]; omega)
  rw [u, v, Int.mul_sub]; omega
theorem tdiv_pos (n d : Int) (hd : 1 ≤ d) (h : 0 ≤ n.tmod d) : n.tdiv d = n / d ∧ n.tmod d = n % d := by
  have e := Int.mul_tdiv_add_tmod n d
  have b := Int.tmod_lt_of_pos n (show 0 < d by omega)
  obtain ⟨u, v⟩ := div_unique n d (n.tdiv d) hd (by omega) (by rw [Int.mul_add]; omega)
  rw [u, v]; omega
theorem tdiv_bd (n d b : Int) (hd : 1 ≤ d) (h0 : -b ≤ n) (h1 : n ≤ b) : -b - 1 ≤ n.tdiv d ∧ n.tdiv d ≤ b + 1 ∧ -d < n.tmod d ∧ n.tmod d < d := by
  have e := Int.mul_tdiv_add_tmod n d
  have b1 := Int.tmod_lt_of_pos n (show 0 < d by omega)
  have b2 : -d < n.tmod d := by have := Int.lt_tmod_of_pos n (show 0 < d by omega); omega
  have db := div_bd n d b hd h0 h1
  by_cases c : n.tmod d < 0
  · have := (tdiv_neg n d hd c).1; omega
  · have := (tdiv_pos n d hd (by omega)).1; omega

theorem ret22 {a b c d : Int} (h : a = b) (k : c = d) : Ending.returned (.tuple #[.int .i64 a, .int .i64 c]) = .returned (.tuple #[.int .i64 b, .int .i64 d]) := by rw [h, k]

set_option maxHeartbeats 1000000 in
theorem floor_any (n d : Int) (w : World) (h1 : -1000000000000 ≤ n) (h2 : n ≤ 1000000000000) (h3 : 1 ≤ d) (h4 : d ≤ 1000000) :
    Calls Try.prog 37 #[fr2 n d] w fun e w' => e = .returned (.tuple #[.int .i64 (n / d), .int .i64 (n % d)]) ∧ Kept w w' := by
  have dz : (d == 0) = false := by rw [beq_eq_false_iff_ne]; omega
  have tb := tdiv_bd n d _ h3 h1 h2
  by_cases hr : n.tmod d < 0
  · have T := Lib.hid (tdiv_neg n d h3 hr)
    go_enter Try.func37, Try.ntmps37
    go_wp2
    go_quiet (fail)
    go_wp2
    go_quiet (fail)
    go_wp2
    go_ret2
    exact ⟨ret22 T.out.1 T.out.2, (((Kept.refl w).alloc _).drewN _).drewN _⟩
  · have hr' : 0 ≤ n.tmod d := by omega
    have T := Lib.hid (tdiv_pos n d h3 hr')
    clear hr
    go_enter Try.func37, Try.ntmps37
    go_wp2
    go_quiet (fail)
    go_wp2
    go_ret2
    exact ⟨ret22 T.out.1 T.out.2, ((Kept.refl w).alloc _).drewN _⟩

set_option maxHeartbeats 400000 in
theorem round_no (n d way : Int) (w : World) (h : okB n d = false) :
    Calls Try.prog 21 #[fr2 n d, .int .i64 way] w fun e w' => e = .returned (.tuple #[.int .i64 0, .int .i64 (chk n d)]) ∧ Kept w w' := by
  have hn : (chk n d != 0) = true := by
    rw [bne_iff_ne]; intro e; rw [chk_iff, h] at e; cases e
  clear h
  go_enter Try.func21, Try.ntmps21
  go_wp2_with fail
  refine (check_any _ _ _).mono ?_
  rintro e w1 ⟨rfl, hk1⟩
  go_wp2
  go_ret2
  exact ⟨rfl, ((Kept.refl w).alloc _).trans hk1⟩

theorem odd_tmod (k : Int) : ((k.tmod 2 != 0) = true ↔ k % 2 = 1) := by
  rw [bne_iff_ne]
  by_cases c : 0 ≤ k
  · rw [Int.tmod_eq_emod_of_nonneg c]; omega
  · have e : k.tmod 2 = -((-k) % 2) := by
      rw [← Int.tmod_eq_emod_of_nonneg (show 0 ≤ -k by omega), Int.neg_tmod, Int.neg_neg]
    rw [e]; omega
theorem even_tmod (k : Int) : ((k.tmod 2 != 0) = false ↔ ¬ k % 2 = 1) := by
  rw [← odd_tmod]; simp

set_option maxHeartbeats 1000000 in
theorem round_bad (n d way : Int) (w : World) (h : okB n d = true) (hw : way < 0 ∨ 3 < way) :
    Calls Try.prog 21 #[fr2 n d, .int .i64 way] w fun e w' => e = .returned (.tuple #[.int .i64 0, .int .i64 1]) ∧ Kept w w' := by
  have H := Lib.hid (chk_ok h)
  obtain ⟨h1, h2, h3, h4⟩ := (ok_iff n d).1 h
  have hb := emod_bd n d (by omega)
  have db := div_bd n d _ h3 h1 h2
  have w0 : (way == 0) = false := by rw [beq_eq_false_iff_ne]; omega
  have w1' : (way == 1) = false := by rw [beq_eq_false_iff_ne]; omega
  have w2' : (way == 2) = false := by rw [beq_eq_false_iff_ne]; omega
  have w3' : (way == 3) = false := by rw [beq_eq_false_iff_ne]; omega
  clear h hw
  go_enter Try.func21, Try.ntmps21
  go_wp2_with fail
  refine (check_any _ _ _).mono ?_
  rintro e w1 ⟨rfl, hk1⟩
  rw [H.out]
  have hA := (Box2.new (w := w) (n := n) (d := d) (t := 23) rfl).later hk1
  have hk := ((Kept.refl w).alloc _).trans hk1
  clear hk1
  obtain ⟨lt, c0, c1, f0, f1⟩ := id hA
  go_wp2_with fail
  refine (floor_any _ _ _ h1 h2 h3 h4).mono ?_
  rintro e w2 ⟨rfl, hk2⟩
  clear lt c0 c1 f0 f1
  obtain ⟨lt, c0, c1, f0, f1⟩ := hA.later hk2
  have hk3 := hk.trans hk2
  clear hA hk hk2
  go_wp2_with fail
  refine (compare_any _ _ _).mono ?_
  rintro e w3 ⟨rfl, rfl⟩
  go_wp2
  go_ret2
  exact ⟨rfl, hk3⟩

set_option maxHeartbeats 4000000 in
theorem round_yes (n d way : Int) (w : World) (h : okB n d = true) (hw0 : 0 ≤ way) (hw3 : way ≤ 3) :
    Calls Try.prog 21 #[fr2 n d, .int .i64 way] w fun e w' => e = .returned (.tuple #[.int .i64 (rnd n d way), .int .i64 0]) ∧ Kept w w' := by
  have H := Lib.hid (chk_ok h)
  obtain ⟨h1, h2, h3, h4⟩ := (ok_iff n d).1 h
  have hb := emod_bd n d (by omega)
  have db := div_bd n d _ h3 h1 h2
  clear h
  go_enter Try.func21, Try.ntmps21
  go_wp2_with fail
  refine (check_any _ _ _).mono ?_
  rintro e w1 ⟨rfl, hk1⟩
  rw [H.out]
  have hA := (Box2.new (w := w) (n := n) (d := d) (t := 23) rfl).later hk1
  have hk := ((Kept.refl w).alloc _).trans hk1
  clear hk1
  obtain ⟨lt, c0, c1, f0, f1⟩ := id hA
  go_wp2_with fail
  refine (floor_any _ _ _ h1 h2 h3 h4).mono ?_
  rintro e w2 ⟨rfl, hk2⟩
  clear lt c0 c1 f0 f1
  obtain ⟨lt, c0, c1, f0, f1⟩ := hA.later hk2
  have hk3 := hk.trans hk2
  clear hA hk hk2
  go_wp2_with fail
  refine (compare_any _ _ _).mono ?_
  rintro e w3 ⟨rfl, rfl⟩
  rcases (show way = 0 ∨ way = 1 ∨ way = 2 ∨ way = 3 by omega) with rfl | rfl | rfl | rfl
  · go_wp2
    go_ret2
    exact ⟨ret22 (by simp [rnd, upB_0]) rfl, hk3⟩
  · by_cases hr : 0 < n % d
    · go_wp2
      go_ret2
      exact ⟨ret22 (by simp [rnd, upB_1, hr]) rfl, hk3⟩
    · have hr' : decide (0 < n % d) = false := by simpa using hr
      have HR := Lib.hid hr
      clear hr
      go_wp2
      go_ret2
      exact ⟨ret22 (by unfold rnd; rw [upB_1, decide_eq_false (Int.not_lt.2 HR.out)]; simp) rfl, hk3⟩
  · rcases (show d < 2 * (n % d) ∨ 2 * (n % d) < d ∨ 2 * (n % d) = d by omega) with hc | hc | hc
    · have E : rnd n d 2 = n / d + 1 := by unfold rnd; rw [upB_2, if_pos (by simp [hc])]
      rw [cmpV_gt hc]
      have HE := Lib.hid E
      clear E hc
      go_wp2
      go_ret2
      exact ⟨ret22 HE.out.symm rfl, hk3⟩
    · have E : rnd n d 2 = n / d := by unfold rnd; rw [upB_2, if_neg (by simp; omega)]
      rw [cmpV_lt hc]
      have HE := Lib.hid E
      clear E hc
      go_wp2
      go_ret2
      exact ⟨ret22 HE.out.symm rfl, hk3⟩
    · by_cases hn : 0 < n
      · have E : rnd n d 2 = n / d + 1 := by unfold rnd; rw [upB_2, if_pos (by simp [hc, hn])]
        rw [show cmpV (2 * (n % d)) d = 0 by rw [hc, cmpV_eq]]
        have HE := Lib.hid E
        clear E hc
        go_wp2
        go_ret2
        exact ⟨ret22 HE.out.symm rfl, hk3⟩
      · have E : rnd n d 2 = n / d := by unfold rnd; rw [upB_2, if_neg (by simp; omega)]
        rw [show cmpV (2 * (n % d)) d = 0 by rw [hc, cmpV_eq]]
        have hn' : decide (0 < n) = false := by simpa using hn
        have HE := Lib.hid E
        clear E hc hn
        go_wp2
        go_ret2
        exact ⟨ret22 HE.out.symm rfl, hk3⟩
  · rcases (show d < 2 * (n % d) ∨ 2 * (n % d) < d ∨ 2 * (n % d) = d by omega) with hc | hc | hc
    · have E : rnd n d 3 = n / d + 1 := by unfold rnd; rw [upB_3, if_pos (by simp [hc])]
      rw [cmpV_gt hc]
      have HE := Lib.hid E
      clear E hc
      go_wp2
      go_ret2
      exact ⟨ret22 HE.out.symm rfl, hk3⟩
    · have E : rnd n d 3 = n / d := by unfold rnd; rw [upB_3, if_neg (by simp; omega)]
      rw [cmpV_lt hc]
      have HE := Lib.hid E
      clear E hc
      go_wp2
      go_ret2
      exact ⟨ret22 HE.out.symm rfl, hk3⟩
    · by_cases hn : (n / d) % 2 = 1
      · have E : rnd n d 3 = n / d + 1 := by unfold rnd; rw [upB_3, if_pos (by simp [hc, hn])]
        rw [show cmpV (2 * (n % d)) d = 0 by rw [hc, cmpV_eq]]
        have hn' := (odd_tmod (n / d)).2 hn
        have HE := Lib.hid E
        clear E hc hn
        go_wp2
        go_ret2
        exact ⟨ret22 HE.out.symm rfl, hk3⟩
      · have E : rnd n d 3 = n / d := by unfold rnd; rw [upB_3, if_neg (by simp; omega)]
        rw [show cmpV (2 * (n % d)) d = 0 by rw [hc, cmpV_eq]]
        have hn' := (even_tmod (n / d)).2 hn
        have HE := Lib.hid E
        clear E hc hn
        go_wp2
        go_ret2
        exact ⟨ret22 HE.out.symm rfl, hk3⟩

/-! The small functions of the laws. -/
/-- Some number from 0 to n - 1. -/
def SomeBelow (n : Int) (w : World) (e : Ending) (w' : World) : Prop := ∃ r : Int, 0 ≤ r ∧ r < n ∧ e = .returned (.int .i64 r) ∧ w = w'
theorem within_val (k n : Int) (w : World) (h0 : 1 ≤ n) (h1 : n ≤ 2000000000000) : SomeBelow n w (.returned (.int .i64 (wrap64 ((IntKind.u64.wrap k).tmod n)))) w := by
  have h2 : 0 ≤ IntKind.u64.wrap k := wrap_u64_nonneg k
  have h3 : (IntKind.u64.wrap k).tmod n = IntKind.u64.wrap k % n := Int.tmod_eq_emod_of_nonneg h2
  have h4 : 0 ≤ IntKind.u64.wrap k % n := Int.emod_nonneg _ (by omega)
  have h5 : IntKind.u64.wrap k % n < n := Int.emod_lt_of_pos _ (by omega)
  rw [h3]
  refine ⟨IntKind.u64.wrap k % n, h4, h5, ?_, rfl⟩
  rw [show wrap64 (IntKind.u64.wrap k % n) = IntKind.u64.wrap k % n from by unfold wrap64; omega]

set_option maxHeartbeats 400000 in
theorem within_any (k n : Int) (w : World) (h0 : 1 ≤ n) (h1 : n ≤ 2000000000000) :
    Calls Try.prog 26 #[.int .i64 k, .int .i64 n] w (SomeBelow n w) := by
  go_enter Try.func26, Try.ntmps26
  go_wp2
  go_ret
  exact within_val k n w h0 h1

/-- Some fraction of not too great numbers. -/
def SomeSmall (w : World) (e : Ending) (w' : World) : Prop := ∃ n d : Int, -1000 ≤ n ∧ n ≤ 1000 ∧ 1 ≤ d ∧ d ≤ 40 ∧ e = .returned (fr2 n d) ∧ Kept w w'
set_option maxHeartbeats 400000 in
theorem small_any (a b : Int) (w : World) : Calls Try.prog 24 #[.int .i64 a, .int .i64 b] w (SomeSmall w) := by
  go_enter Try.func24, Try.ntmps24
  go_wp2_with fail
  refine (within_any _ _ _ (by omega) (by omega)).mono ?_
  rintro e w1 ⟨r, r0, r1, rfl, rfl⟩
  go_wp2_with fail
  refine (within_any _ _ _ (by omega) (by omega)).mono ?_
  rintro e w1 ⟨s, s0, s1, rfl, rfl⟩
  go_wp2
  exact bodyPost_ret (v := fr2 (r - 1000) (1 + s)) (by simp [results, Try.results24, go_sem]) rfl ⟨r - 1000, 1 + s, by omega, by omega, by omega, by omega, rfl, (Kept.refl w).alloc _⟩

theorem begun_num : sN 1 2 1 3 = 5 ∧ sD 1 2 1 3 = 6 := by
  have h := sum_low 1 2 1 3 (by omega) (by omega)
  unfold lN lD at h
  rw [← h.1, ← h.2, q_num _ _ (by omega), q_den _ _ (by omega)]
  decide
set_option maxHeartbeats 400000 in
theorem begun_any (w : World) : Calls Try.prog 23 #[] w fun e w' => e = .returned (.bool true) ∧ Kept w w' := by
  have S := Lib.hid begun_num
  go_enter Try.func23, Try.ntmps23
  go_wp2_with fail
  refine (add_yes _ _ _ _ _ (by decide) (by decide)).mono ?_
  rintro e w1 ⟨rfl, hk1⟩
  rw [S.out.1, S.out.2, show bN 5 6 = 5 by decide, show bD 5 6 = 6 by decide, show bE 5 6 = 0 by decide]
  go_wp2
  go_ret
  exact ⟨rfl, hk1.alloc _⟩

end Go.Proofs.Ytkbbofpjelgiiaa
