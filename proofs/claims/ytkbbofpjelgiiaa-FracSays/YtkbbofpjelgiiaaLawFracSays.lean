/-
  The law FracSays returns true: whatever is handed in, Check, Norm, Add and Mul answer what the document says. No condition.
-/
import Derived.Test.YtkbbofpjelgiiaaFWalkU
import Derived.Test.YtkbbofpjelgiiaaFWalkD
namespace Go.Proofs.Ytkbbofpjelgiiaa
open Go.RowKit

/-- The five boxes, and the two errors. -/
def Five (w : World) (a b c d X XD Y YD Z ZD : Int) (px py pz : Nat) (one two : Value) (wx : World) : Prop :=
  one = .int .i64 (chk a b) ∧ two = .int .i64 (chk2 a b c d) ∧ Box2 wx w.heap.size a b ∧ Box2 wx (w.heap.size + 1) c d ∧ Box2 wx px X XD ∧ Box2 wx py Y YD ∧ Box2 wx pz Z ZD ∧ Kept w wx

set_option maxRecDepth 100000 in
set_option maxHeartbeats 4000000 in
theorem fracSays_walk (a b c d : Int) (w : World) :
    Calls Try.prog 3 #[fr2 a b, fr2 c d] w fun e w' => e = .returned (.bool true) ∧ Kept w w' := by
  go_enter Try.func3, Try.ntmps3
  go_wp2_with fail
  obtain ⟨hA, hB, hK⟩ := two_new w a b c d 23
  generalize ((w.alloc (.cells #[.int .i64 a, .int .i64 b] 23)).alloc (.cells #[.int .i64 c, .int .i64 d] 23)) = W at *
  obtain ⟨lt_f, c0_f, c1_f, f0_f, f1_f⟩ := id hA
  refine (norm_any _ _ _).mono ?_
  rintro e w1 ⟨rfl, hk1⟩
  clear lt_f c0_f c1_f f0_f f1_f
  have h_f1 := hA.later hk1
  have h_g1 := hB.later hk1
  have hK1 := hK.trans hk1
  clear hA hB hK hk1
  generalize hX : (if okB a b = true then lN a b else 0) = X
  generalize hX2 : (if okB a b = true then lD a b else 0) = XD
  have HX := Lib.hid hX
  have HX2 := Lib.hid hX2
  clear hX hX2
  have h_f1a := h_f1.alloc (.cells #[.int .i64 X, .int .i64 XD] 23)
  have h_g1a := h_g1.alloc (.cells #[.int .i64 X, .int .i64 XD] 23)
  have hn_x := Box2.new (w := w1) (p := w1.heap.size) (n := X) (d := XD) (t := 23) rfl
  have hK1a := hK1.alloc (.cells #[.int .i64 X, .int .i64 XD] 23)
  clear h_f1 h_g1 hK1
  obtain ⟨lt_f, c0_f, c1_f, f0_f, f1_f⟩ := id h_f1a
  obtain ⟨lt_g, c0_g, c1_g, f0_g, f1_g⟩ := id h_g1a
  go_wp2_with fail
  refine (add_any _ _ _ _ _).mono ?_
  rintro e w2 ⟨rfl, hk2⟩
  clear lt_f c0_f c1_f f0_f f1_f lt_g c0_g c1_g f0_g f1_g
  have h_f2 := h_f1a.later hk2
  have h_g2 := h_g1a.later hk2
  have h_x2 := hn_x.later hk2
  have hK2 := hK1a.trans hk2
  clear h_f1a h_g1a hn_x hK1a hk2
  generalize hY : aN a b c d = Y
  generalize hY2 : aD a b c d = YD
  generalize hY3 : aE a b c d = YE
  have HY := Lib.hid hY
  have HY2 := Lib.hid hY2
  have HY3 := Lib.hid hY3
  clear hY hY2 hY3
  have h_f2a := h_f2.alloc (.cells #[.int .i64 Y, .int .i64 YD] 23)
  have h_g2a := h_g2.alloc (.cells #[.int .i64 Y, .int .i64 YD] 23)
  have h_x2a := h_x2.alloc (.cells #[.int .i64 Y, .int .i64 YD] 23)
  have hn_y := Box2.new (w := w2) (p := w2.heap.size) (n := Y) (d := YD) (t := 23) rfl
  have hK2a := hK2.alloc (.cells #[.int .i64 Y, .int .i64 YD] 23)
  clear h_f2 h_g2 h_x2 hK2
  obtain ⟨lt_f, c0_f, c1_f, f0_f, f1_f⟩ := id h_f2a
  obtain ⟨lt_g, c0_g, c1_g, f0_g, f1_g⟩ := id h_g2a
  go_wp2_with fail
  refine (mul_any _ _ _ _ _).mono ?_
  rintro e w3 ⟨rfl, hk3⟩
  clear lt_f c0_f c1_f f0_f f1_f lt_g c0_g c1_g f0_g f1_g
  have h_f3 := h_f2a.later hk3
  have h_g3 := h_g2a.later hk3
  have h_x3 := h_x2a.later hk3
  have h_y3 := hn_y.later hk3
  have hK3 := hK2a.trans hk3
  clear h_f2a h_g2a h_x2a hn_y hK2a hk3
  generalize hZ : mN a b c d = Z
  generalize hZ2 : mD a b c d = ZD
  generalize hZ3 : mE a b c d = ZE
  have HZ := Lib.hid hZ
  have HZ2 := Lib.hid hZ2
  have HZ3 := Lib.hid hZ3
  clear hZ hZ2 hZ3
  have h_f3a := h_f3.alloc (.cells #[.int .i64 Z, .int .i64 ZD] 23)
  have h_g3a := h_g3.alloc (.cells #[.int .i64 Z, .int .i64 ZD] 23)
  have h_x3a := h_x3.alloc (.cells #[.int .i64 Z, .int .i64 ZD] 23)
  have h_y3a := h_y3.alloc (.cells #[.int .i64 Z, .int .i64 ZD] 23)
  have hn_z := Box2.new (w := w3) (p := w3.heap.size) (n := Z) (d := ZD) (t := 23) rfl
  have hK3a := hK3.alloc (.cells #[.int .i64 Z, .int .i64 ZD] 23)
  clear h_f3 h_g3 h_x3 h_y3 hK3
  go_wp2_with fail
  generalize (w3.alloc (.cells #[.int .i64 Z, .int .i64 ZD] 23)) = W5 at *
  generalize w1.heap.size = px at *
  generalize w2.heap.size = py at *
  generalize w3.heap.size = pz at *
  go_cut [11, 12] (fun one two wx => Five w a b c d X XD Y YD Z ZD px py pz one two wx)
  case first =>
    go_region_held3 (fun w' => Kept W5 w' ∧ w'.cell? ⟨w.heap.size, 0, none⟩ = some (.int .i64 a) ∧ w'.cell? ⟨w.heap.size, 1, none⟩ = some (.int .i64 b) ∧ w'.cell? ⟨w.heap.size + 1, 0, none⟩ = some (.int .i64 c) ∧ w'.cell? ⟨w.heap.size + 1, 1, none⟩ = some (.int .i64 d))
      (first | exact two_keep h_f3a h_g3a (Kept.refl _).drew | exact two_keep h_f3a h_g3a ((Kept.refl _).alloc _).drew | exact two_keep h_f3a h_g3a (((Kept.refl _).alloc _).alloc _).drew | exact two_keep h_f3a h_g3a hKx | exact two_keep h_f3a h_g3a (hKx.alloc _) | exact two_keep h_f3a h_g3a (Kept.alloc (And.left (by assumption)) _))
      (first | (go_at_call 15; (first | ((with_reducible refine (rfrac_at1 a b _ _ ?_).mono ?_); (first | exact (rowfr_1p (by simp)).drew | exact ((rowfr_1p (by simp)).later ((Kept.refl _).alloc _)).drew); rintro e w' ⟨rfl, hk9⟩; have hKx := Kept.trans (a := W5) (by first | exact ((Kept.refl _).alloc _).drew | exact (((Kept.refl _).alloc _).alloc _).drew) hk9) | ((with_reducible refine (rfrac_at2 a b c d _ _ ?_).mono ?_); (first | exact rowfr_2p (by simp) | exact RowFr.later (rowfr_2p (by simp)).drew hk9 | exact RowFr.later ((rowfr_2p (by simp)).later ((Kept.refl _).alloc _)).drew hk9); rintro e w' ⟨rfl, hk9⟩; have hKx := Kept.trans (a := W5) (by first | exact hKx | exact hKx.alloc _) hk9))))
    all_goals go_wp2_with fail
    all_goals go_meet
    all_goals exact ⟨rfl, rfl, h_f3a.later hKx, h_g3a.later hKx, h_x3a.later hKx, h_y3a.later hKx, hn_z.later hKx, hK3a.trans hKx⟩
  case rest =>
    obtain ⟨rfl, rfl, hA6, hB6, hX6, hY6, hZ6, hK6⟩ := hcut
    obtain ⟨V, rfl⟩ : ∃ V : World, V = wc := ⟨_, rfl⟩
    clear h_f3a h_g3a h_x3a h_y3a hn_z hK3a
    obtain ⟨lt_f, c0_f, c1_f, f0_f, f1_f⟩ := id hA6
    go_wp2_with fail
    refine (check_any _ _ _).mono ?_
    rintro e w7 ⟨rfl, hk7⟩
    clear lt_f c0_f c1_f f0_f f1_f
    have h_f7 := hA6.later hk7
    have h_g7 := hB6.later hk7
    have h_x7 := hX6.later hk7
    have h_y7 := hY6.later hk7
    have h_z7 := hZ6.later hk7
    have hK7 := hK6.trans hk7
    clear hA6 hB6 hX6 hY6 hZ6 hK6 hk7
    go_wp2_with fail
    refine (check_any _ _ _).mono ?_
    rintro e w8 ⟨rfl, hk8⟩
    rw [show chk 0 0 = 6 from rfl]
    have h_f8 := h_f7.later hk8
    have h_g8 := h_g7.later hk8
    have h_x8 := h_x7.later hk8
    have h_y8 := h_y7.later hk8
    have h_z8 := h_z7.later hk8
    have hK8 := hK7.trans hk8
    clear h_f7 h_g7 h_x7 h_y7 h_z7 hK7 hk8
    cases ho : okB a b
    · have c1 := chk_ne ho
      have e2 : chk2 a b c d = chk a b := chk2_no ho
      have n2 : ¬ chk2 a b c d = 0 := chk2_ne (.inl ho)
      obtain rfl : X = 0 := by rw [← HX.out, ho]; rfl
      obtain rfl : XD = 0 := by rw [← HX2.out, ho]; rfl
      obtain rfl : Y = 0 := by rw [← HY.out]; unfold aN; rw [if_neg n2]
      obtain rfl : YD = 0 := by rw [← HY2.out]; unfold aD; rw [if_neg n2]
      obtain rfl : YE = chk a b := by rw [← HY3.out]; unfold aE; rw [if_neg n2, e2]
      obtain rfl : Z = 0 := by rw [← HZ.out]; unfold mN; rw [if_neg n2]
      obtain rfl : ZD = 0 := by rw [← HZ2.out]; unfold mD; rw [if_neg n2]
      obtain rfl : ZE = chk a b := by rw [← HZ3.out]; unfold mE; rw [if_neg n2, e2]
      clear ho e2 n2 HX HX2 HY HY2 HY3 HZ HZ2 HZ3
      obtain ⟨lt_x, c0_x, c1_x, f0_x, f1_x⟩ := id h_x8
      obtain ⟨lt_y, c0_y, c1_y, f0_y, f1_y⟩ := id h_y8
      obtain ⟨lt_z, c0_z, c1_z, f0_z, f1_z⟩ := id h_z8
      go_wp2
      go_ret
      exact ⟨rfl, hK8⟩
    · obtain ⟨h1, h2, h3, h4⟩ := (ok_iff a b).1 ho
      rw [chk_ok ho]
      obtain rfl : X = lN a b := by rw [← HX.out, ho]; rfl
      obtain rfl : XD = lD a b := by rw [← HX2.out, ho]; rfl
      have HO := Lib.hid ho
      clear HX HX2
      go_wp2_with fail
      go_region_held3 (fun w' => Kept w8 w' ∧ w'.cell? ⟨w.heap.size, 0, none⟩ = some (.int .i64 a) ∧ w'.cell? ⟨w.heap.size, 1, none⟩ = some (.int .i64 b) ∧ w'.cell? ⟨px, 0, none⟩ = some (.int .i64 (lN a b)) ∧ w'.cell? ⟨px, 1, none⟩ = some (.int .i64 (lD a b)))
        (first | exact two_keep h_f8 h_x8 (Kept.refl _).drew | exact two_keep h_f8 h_x8 hKx)
        (first | (go_at_call 17; refine (rlowest_any _ _ _ (by omega) (by omega) (by omega) (by omega)).mono ?_; rintro e w' ⟨rfl, hk9⟩; have hKx := Kept.trans (a := w8) (And.left (by assumption)) hk9; clear hk9))
      have h_f9 := h_f8.later hKx
      have h_g9 := h_g8.later hKx
      have h_y9 := h_y8.later hKx
      have h_z9 := h_z8.later hKx
      have hK9 := hK8.trans hKx
      generalize w' = V9 at *
      cases hp : okB c d
      · have n2 : ¬ chk2 a b c d = 0 := chk2_ne (.inr hp)
        have c2 : (chk2 a b c d != 0) = true := by rw [bne_iff_ne]; exact n2
        obtain rfl : Y = 0 := by rw [← HY.out]; unfold aN; rw [if_neg n2]
        obtain rfl : YD = 0 := by rw [← HY2.out]; unfold aD; rw [if_neg n2]
        obtain rfl : YE = chk2 a b c d := by rw [← HY3.out]; unfold aE; rw [if_neg n2]
        obtain rfl : Z = 0 := by rw [← HZ.out]; unfold mN; rw [if_neg n2]
        obtain rfl : ZD = 0 := by rw [← HZ2.out]; unfold mD; rw [if_neg n2]
        obtain rfl : ZE = chk2 a b c d := by rw [← HZ3.out]; unfold mE; rw [if_neg n2]
        clear ho hp n2 HY HY2 HY3 HZ HZ2 HZ3
        obtain ⟨lt_y, c0_y, c1_y, f0_y, f1_y⟩ := id h_y9
        obtain ⟨lt_z, c0_z, c1_z, f0_z, f1_z⟩ := id h_z9
        go_wp2
        go_ret
        exact ⟨rfl, hK9⟩
      · obtain ⟨h5, h6, h7, h8⟩ := (ok_iff c d).1 hp
        have n2 : chk2 a b c d = 0 := (chk2_iff a b c d).2 ⟨ho, hp⟩
        have m1 := mul_abs a d _ _ h1 h2 (show -1000000 ≤ d by omega) h8
        have m2 := mul_abs c b _ _ h5 h6 (show -1000000 ≤ b by omega) h4
        have m3 := mul_abs b d _ _ (show -1000000 ≤ b by omega) h4 (show -1000000 ≤ d by omega) h8
        have m4 : 1 * 1 ≤ b * d := Int.mul_le_mul h3 h7 (by omega) (by omega)
        have S := Lib.hid (sum_low a b c d h3 h7)
        have HP := Lib.hid hp
        obtain rfl : Y = bN (sN a b c d) (sD a b c d) := by rw [← HY.out]; unfold aN; rw [if_pos n2]
        obtain rfl : YD = bD (sN a b c d) (sD a b c d) := by rw [← HY2.out]; unfold aD; rw [if_pos n2]
        obtain rfl : YE = bE (sN a b c d) (sD a b c d) := by rw [← HY3.out]; unfold aE; rw [if_pos n2]
        obtain rfl : Z = bN (pN a b c d) (pD a b c d) := by rw [← HZ.out]; unfold mN; rw [if_pos n2]
        obtain rfl : ZD = bD (pN a b c d) (pD a b c d) := by rw [← HZ2.out]; unfold mD; rw [if_pos n2]
        obtain rfl : ZE = bE (pN a b c d) (pD a b c d) := by rw [← HZ3.out]; unfold mE; rw [if_pos n2]
        rw [n2]
        clear ho hp n2 HY HY2 HY3 HZ HZ2 HZ3
        obtain ⟨lt_f, c0_f, c1_f, f0_f, f1_f⟩ := id h_f9
        obtain ⟨lt_g, c0_g, c1_g, f0_g, f1_g⟩ := id h_g9
        go_wp2_with fail
        refine (rtold_any _ _ _ (by omega) (by omega) (by omega) (by omega)).mono ?_
        rintro e w21 ⟨rfl, hk21⟩
        rw [S.out.1, S.out.2]
        clear lt_f c0_f c1_f f0_f f1_f lt_g c0_g c1_g f0_g f1_g
        have h_f21 := h_f9.later hk21
        have h_g21 := h_g9.later hk21
        have h_y21 := h_y9.later hk21
        have h_z21 := h_z9.later hk21
        have hK21 := hK9.trans hk21
        clear h_f9 h_g9 h_y9 h_z9 hK9 hk21
        generalize bN (sN a b c d) (sD a b c d) = S1 at *
        generalize bD (sN a b c d) (sD a b c d) = S2 at *
        generalize bE (sN a b c d) (sD a b c d) = S3 at *
        have h_f21a := h_f21.alloc (.cells #[.int .i64 S1, .int .i64 S2] 23)
        have h_g21a := h_g21.alloc (.cells #[.int .i64 S1, .int .i64 S2] 23)
        have h_y21a := h_y21.alloc (.cells #[.int .i64 S1, .int .i64 S2] 23)
        have h_z21a := h_z21.alloc (.cells #[.int .i64 S1, .int .i64 S2] 23)
        have hn_s := Box2.new (w := w21) (p := w21.heap.size) (n := S1) (d := S2) (t := 23) rfl
        have hK21a := hK21.alloc (.cells #[.int .i64 S1, .int .i64 S2] 23)
        clear h_f21 h_g21 h_y21 h_z21 hK21
        obtain ⟨lt_f, c0_f, c1_f, f0_f, f1_f⟩ := id h_f21a
        obtain ⟨lt_g, c0_g, c1_g, f0_g, f1_g⟩ := id h_g21a
        go_wp2_with fail
        refine (rmul_yes _ _ _ _ _ HO.out HP.out).mono ?_
        rintro e w22 ⟨rfl, hk22⟩
        clear lt_f c0_f c1_f f0_f f1_f lt_g c0_g c1_g f0_g f1_g
        have h_f22 := h_f21a.later hk22
        have h_g22 := h_g21a.later hk22
        have h_y22 := h_y21a.later hk22
        have h_z22 := h_z21a.later hk22
        have h_s22 := hn_s.later hk22
        have hK22 := hK21a.trans hk22
        clear h_f21a h_g21a h_y21a h_z21a hn_s hK21a hk22
        generalize bN (pN a b c d) (pD a b c d) = P1 at *
        generalize bD (pN a b c d) (pD a b c d) = P2 at *
        generalize bE (pN a b c d) (pD a b c d) = P3 at *
        have h_f22a := h_f22.alloc (.cells #[.int .i64 P1, .int .i64 P2] 23)
        have h_g22a := h_g22.alloc (.cells #[.int .i64 P1, .int .i64 P2] 23)
        have h_y22a := h_y22.alloc (.cells #[.int .i64 P1, .int .i64 P2] 23)
        have h_z22a := h_z22.alloc (.cells #[.int .i64 P1, .int .i64 P2] 23)
        have h_s22a := h_s22.alloc (.cells #[.int .i64 P1, .int .i64 P2] 23)
        have hn_p := Box2.new (w := w22) (p := w22.heap.size) (n := P1) (d := P2) (t := 23) rfl
        have hK22a := hK22.alloc (.cells #[.int .i64 P1, .int .i64 P2] 23)
        clear h_f22 h_g22 h_y22 h_z22 h_s22 hK22
        obtain ⟨lt_y, c0_y, c1_y, f0_y, f1_y⟩ := id h_y22a
        obtain ⟨lt_z, c0_z, c1_z, f0_z, f1_z⟩ := id h_z22a
        obtain ⟨lt_s, c0_s, c1_s, f0_s, f1_s⟩ := id h_s22a
        obtain ⟨lt_p, c0_p, c1_p, f0_p, f1_p⟩ := id hn_p
        go_wp2
        go_ret
        exact ⟨ret_bool (by simp), hK22a⟩

end Go.Proofs.Ytkbbofpjelgiiaa
