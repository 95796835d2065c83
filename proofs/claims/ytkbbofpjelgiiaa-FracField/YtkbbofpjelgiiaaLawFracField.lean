/-
  The law FracField returns true: sums and products, in any order, whichever two come first; products go over sums. No condition.
-/
import Derived.Test.YtkbbofpjelgiiaaFWalkE
namespace Go.Proofs.Ytkbbofpjelgiiaa
open Go.RowKit

/-- The names of the sums and products. -/
def Names (x y z S1 S2 L P R V Q T : Rat) : Prop := S1 = x + y ∧ S2 = y + z ∧ L = x + y + z ∧ P = x * y ∧ R = y * z ∧ V = x * z ∧ Q = x * y * z ∧ T = x * (y + z)
section
variable {x y z S1 S2 L P R V Q T : Rat}
theorem Names.a1 (h : Names x y z S1 S2 L P R V Q T) : S1 = x + y := h.1
theorem Names.a2 (h : Names x y z S1 S2 L P R V Q T) : S1 = y + x := by rw [h.1, Rat.add_comm]
theorem Names.a3 (h : Names x y z S1 S2 L P R V Q T) : L = S1 + z := by rw [h.1]; exact h.2.2.1
theorem Names.a4 (h : Names x y z S1 S2 L P R V Q T) : S2 = y + z := h.2.1
theorem Names.a5 (h : Names x y z S1 S2 L P R V Q T) : L = x + S2 := by rw [h.2.1, ← Rat.add_assoc]; exact h.2.2.1
theorem Names.a6 (h : Names x y z S1 S2 L P R V Q T) : P = x * y := h.2.2.2.1
theorem Names.a7 (h : Names x y z S1 S2 L P R V Q T) : P = y * x := by rw [h.2.2.2.1, Rat.mul_comm]
theorem Names.a8 (h : Names x y z S1 S2 L P R V Q T) : Q = P * z := by rw [h.2.2.2.1]; exact h.2.2.2.2.2.2.1
theorem Names.a9 (h : Names x y z S1 S2 L P R V Q T) : R = y * z := h.2.2.2.2.1
theorem Names.a10 (h : Names x y z S1 S2 L P R V Q T) : Q = x * R := by rw [h.2.2.2.2.1, ← Rat.mul_assoc]; exact h.2.2.2.2.2.2.1
theorem Names.a11 (h : Names x y z S1 S2 L P R V Q T) : T = x * S2 := by rw [h.2.1]; exact h.2.2.2.2.2.2.2
theorem Names.a12 (h : Names x y z S1 S2 L P R V Q T) : V = x * z := h.2.2.2.2.2.1
theorem Names.a13 (h : Names x y z S1 S2 L P R V Q T) : T = P + V := by rw [h.2.2.2.1, h.2.2.2.2.2.1, ← Rat.mul_add]; exact h.2.2.2.2.2.2.2
end
/-- All of them may be. -/
structure NamesOk (S1 S2 L P R V Q T : Rat) : Prop where
  a1 : OkR S1
  a3 : OkR L
  a4 : OkR S2
  a6 : OkR P
  a8 : OkR Q
  a9 : OkR R
  a11 : OkR T
  a12 : OkR V
theorem names_ok {a b c d e f : Int} {S1 S2 L P R V Q T : Rat} (h : Sm a b) (k : Sm c d) (l : Sm e f) (n : Names (q a b) (q c d) (q e f) S1 S2 L P R V Q T) : NamesOk S1 S2 L P R V Q T := by
  obtain ⟨rfl, rfl, rfl, rfl, rfl, rfl, rfl, rfl⟩ := n
  exact ⟨sm_add h k, sm_add3 h k l, sm_add k l, sm_mul h k, sm_mul3 h k l, sm_mul k l, sm_muladd h k l, sm_mul h l⟩

set_option maxRecDepth 100000 in
set_option maxHeartbeats 4000000 in
theorem fracField_walk (a b c d e f : Int) (w : World) :
    Calls Try.prog 5 #[.int .i64 a, .int .i64 b, .int .i64 c, .int .i64 d, .int .i64 e, .int .i64 f] w fun e w' => e = .returned (.bool true) ∧ Kept w w' := by
  go_enter Try.func5, Try.ntmps5
  go_wp2_with fail
  refine (begun_any _).mono ?_
  rintro e w1 ⟨rfl, hK1⟩
  go_wp2_with fail
  refine (small_any _ _ _).mono ?_
  rintro e w2 ⟨xn, xd, x0, x1, x2, x3, rfl, hk2⟩
  have hK2 := hK1.trans hk2
  clear hK1 hk2
  go_wp2_with fail
  refine (small_any _ _ _).mono ?_
  rintro e w3 ⟨yn, yd, y0, y1, y2, y3, rfl, hk3⟩
  have hK3 := hK2.trans hk3
  clear hK2 hk3
  go_wp2_with fail
  refine (small_any _ _ _).mono ?_
  rintro e w4 ⟨zn, zd, z0, z1, z2, z3, rfl, hk4⟩
  have hK4 := hK3.trans hk4
  clear hK3 hk4
  have hn_x := Box2.new (w := w4) (p := w4.heap.size) (n := xn) (d := xd) (t := 23) rfl
  have hK4a := hK4.alloc (.cells #[.int .i64 xn, .int .i64 xd] 23)
  clear hK4
  have hn_xa := hn_x.alloc (.cells #[.int .i64 yn, .int .i64 yd] 23)
  have hn_y := Box2.new (w := (w4.alloc (.cells #[.int .i64 xn, .int .i64 xd] 23))) (p := w4.heap.size + 1) (n := yn) (d := yd) (t := 23) (by simp)
  have hK4aa := hK4a.alloc (.cells #[.int .i64 yn, .int .i64 yd] 23)
  clear hn_x hK4a
  have hn_xaa := hn_xa.alloc (.cells #[.int .i64 zn, .int .i64 zd] 23)
  have hn_ya := hn_y.alloc (.cells #[.int .i64 zn, .int .i64 zd] 23)
  have hn_z := Box2.new (w := ((w4.alloc (.cells #[.int .i64 xn, .int .i64 xd] 23)).alloc (.cells #[.int .i64 yn, .int .i64 yd] 23))) (p := w4.heap.size + 1 + 1) (n := zn) (d := zd) (t := 23) (by simp)
  have hK4aaa := hK4aa.alloc (.cells #[.int .i64 zn, .int .i64 zd] 23)
  clear hn_xa hn_y hK4aa
  have SX : Sm xn xd := ⟨x0, x1, x2, x3⟩
  have SY : Sm yn yd := ⟨y0, y1, y2, y3⟩
  have SZ : Sm zn zd := ⟨z0, z1, z2, z3⟩
  have OX := Lib.hid (sm_ok SX)
  have OY := Lib.hid (sm_ok SY)
  have OZ := Lib.hid (sm_ok SZ)
  obtain ⟨S1, S2, L, P, R, V, Q, T, hE⟩ : ∃ S1 S2 L P R V Q T : Rat, Names (q xn xd) (q yn yd) (q zn zd) S1 S2 L P R V Q T := ⟨_, _, _, _, _, _, _, _, rfl, rfl, rfl, rfl, rfl, rfl, rfl, rfl⟩
  have E := Lib.hid hE
  clear hE
  have O := Lib.hid (names_ok SX SY SZ E.out)
  clear x0 x1 x2 x3 y0 y1 y2 y3 z0 z1 z2 z3 SX SY SZ
  obtain ⟨lt_x, c0_x, c1_x, f0_x, f1_x⟩ := id hn_xaa
  obtain ⟨lt_y, c0_y, c1_y, f0_y, f1_y⟩ := id hn_ya
  go_wp2_with fail
  refine (addq _ _ _ _ (q xn xd) (q yn yd) S1 _ OX.out OY.out rfl rfl E.out.a1 O.out.a1).mono ?_
  rintro e w5 ⟨rfl, hk5⟩
  clear lt_x c0_x c1_x f0_x f1_x lt_y c0_y c1_y f0_y f1_y
  have h_x5 := hn_xaa.later hk5
  have h_y5 := hn_ya.later hk5
  have h_z5 := hn_z.later hk5
  have hK5 := hK4aaa.trans hk5
  clear hn_xaa hn_ya hn_z hK4aaa hk5
  have h_x5a := h_x5.alloc (.cells #[.int .i64 (rn S1), .int .i64 (rd S1)] 23)
  have h_y5a := h_y5.alloc (.cells #[.int .i64 (rn S1), .int .i64 (rd S1)] 23)
  have h_z5a := h_z5.alloc (.cells #[.int .i64 (rn S1), .int .i64 (rd S1)] 23)
  have hn_xy := Box2.new (w := w5) (p := w5.heap.size) (n := (rn S1)) (d := (rd S1)) (t := 23) rfl
  have hK5a := hK5.alloc (.cells #[.int .i64 (rn S1), .int .i64 (rd S1)] 23)
  clear h_x5 h_y5 h_z5 hK5
  obtain ⟨lt_x, c0_x, c1_x, f0_x, f1_x⟩ := id h_x5a
  obtain ⟨lt_y, c0_y, c1_y, f0_y, f1_y⟩ := id h_y5a
  go_wp2_with fail
  refine (addq _ _ _ _ (q yn yd) (q xn xd) S1 _ OY.out OX.out rfl rfl E.out.a2 O.out.a1).mono ?_
  rintro e w6 ⟨rfl, hk6⟩
  clear lt_x c0_x c1_x f0_x f1_x lt_y c0_y c1_y f0_y f1_y
  have h_x6 := h_x5a.later hk6
  have h_y6 := h_y5a.later hk6
  have h_z6 := h_z5a.later hk6
  have h_xy6 := hn_xy.later hk6
  have hK6 := hK5a.trans hk6
  clear h_x5a h_y5a h_z5a hn_xy hK5a hk6
  have h_x6a := h_x6.alloc (.cells #[.int .i64 (rn S1), .int .i64 (rd S1)] 23)
  have h_y6a := h_y6.alloc (.cells #[.int .i64 (rn S1), .int .i64 (rd S1)] 23)
  have h_z6a := h_z6.alloc (.cells #[.int .i64 (rn S1), .int .i64 (rd S1)] 23)
  have h_xy6a := h_xy6.alloc (.cells #[.int .i64 (rn S1), .int .i64 (rd S1)] 23)
  have hn_yx := Box2.new (w := w6) (p := w6.heap.size) (n := (rn S1)) (d := (rd S1)) (t := 23) rfl
  have hK6a := hK6.alloc (.cells #[.int .i64 (rn S1), .int .i64 (rd S1)] 23)
  clear h_x6 h_y6 h_z6 h_xy6 hK6
  obtain ⟨lt_xy, c0_xy, c1_xy, f0_xy, f1_xy⟩ := id h_xy6a
  obtain ⟨lt_z, c0_z, c1_z, f0_z, f1_z⟩ := id h_z6a
  go_wp2_with fail
  refine (addq _ _ _ _ S1 (q zn zd) L _ O.out.a1 OZ.out (q_r S1) rfl E.out.a3 O.out.a3).mono ?_
  rintro e w7 ⟨rfl, hk7⟩
  clear lt_xy c0_xy c1_xy f0_xy f1_xy lt_z c0_z c1_z f0_z f1_z
  have h_x7 := h_x6a.later hk7
  have h_y7 := h_y6a.later hk7
  have h_z7 := h_z6a.later hk7
  have h_xy7 := h_xy6a.later hk7
  have h_yx7 := hn_yx.later hk7
  have hK7 := hK6a.trans hk7
  clear h_x6a h_y6a h_z6a h_xy6a hn_yx hK6a hk7
  have h_x7a := h_x7.alloc (.cells #[.int .i64 (rn L), .int .i64 (rd L)] 23)
  have h_y7a := h_y7.alloc (.cells #[.int .i64 (rn L), .int .i64 (rd L)] 23)
  have h_z7a := h_z7.alloc (.cells #[.int .i64 (rn L), .int .i64 (rd L)] 23)
  have h_xy7a := h_xy7.alloc (.cells #[.int .i64 (rn L), .int .i64 (rd L)] 23)
  have h_yx7a := h_yx7.alloc (.cells #[.int .i64 (rn L), .int .i64 (rd L)] 23)
  have hn_l := Box2.new (w := w7) (p := w7.heap.size) (n := (rn L)) (d := (rd L)) (t := 23) rfl
  have hK7a := hK7.alloc (.cells #[.int .i64 (rn L), .int .i64 (rd L)] 23)
  clear h_x7 h_y7 h_z7 h_xy7 h_yx7 hK7
  obtain ⟨lt_y, c0_y, c1_y, f0_y, f1_y⟩ := id h_y7a
  obtain ⟨lt_z, c0_z, c1_z, f0_z, f1_z⟩ := id h_z7a
  go_wp2_with fail
  refine (addq _ _ _ _ (q yn yd) (q zn zd) S2 _ OY.out OZ.out rfl rfl E.out.a4 O.out.a4).mono ?_
  rintro e w8 ⟨rfl, hk8⟩
  clear lt_y c0_y c1_y f0_y f1_y lt_z c0_z c1_z f0_z f1_z
  have h_x8 := h_x7a.later hk8
  have h_y8 := h_y7a.later hk8
  have h_z8 := h_z7a.later hk8
  have h_xy8 := h_xy7a.later hk8
  have h_yx8 := h_yx7a.later hk8
  have h_l8 := hn_l.later hk8
  have hK8 := hK7a.trans hk8
  clear h_x7a h_y7a h_z7a h_xy7a h_yx7a hn_l hK7a hk8
  have h_x8a := h_x8.alloc (.cells #[.int .i64 (rn S2), .int .i64 (rd S2)] 23)
  have h_y8a := h_y8.alloc (.cells #[.int .i64 (rn S2), .int .i64 (rd S2)] 23)
  have h_z8a := h_z8.alloc (.cells #[.int .i64 (rn S2), .int .i64 (rd S2)] 23)
  have h_xy8a := h_xy8.alloc (.cells #[.int .i64 (rn S2), .int .i64 (rd S2)] 23)
  have h_yx8a := h_yx8.alloc (.cells #[.int .i64 (rn S2), .int .i64 (rd S2)] 23)
  have h_l8a := h_l8.alloc (.cells #[.int .i64 (rn S2), .int .i64 (rd S2)] 23)
  have hn_yz := Box2.new (w := w8) (p := w8.heap.size) (n := (rn S2)) (d := (rd S2)) (t := 23) rfl
  have hK8a := hK8.alloc (.cells #[.int .i64 (rn S2), .int .i64 (rd S2)] 23)
  clear h_x8 h_y8 h_z8 h_xy8 h_yx8 h_l8 hK8
  obtain ⟨lt_x, c0_x, c1_x, f0_x, f1_x⟩ := id h_x8a
  obtain ⟨lt_yz, c0_yz, c1_yz, f0_yz, f1_yz⟩ := id hn_yz
  go_wp2_with fail
  refine (addq _ _ _ _ (q xn xd) S2 L _ OX.out O.out.a4 rfl (q_r S2) E.out.a5 O.out.a3).mono ?_
  rintro e w9 ⟨rfl, hk9⟩
  clear lt_x c0_x c1_x f0_x f1_x lt_yz c0_yz c1_yz f0_yz f1_yz
  have h_x9 := h_x8a.later hk9
  have h_y9 := h_y8a.later hk9
  have h_z9 := h_z8a.later hk9
  have h_xy9 := h_xy8a.later hk9
  have h_yx9 := h_yx8a.later hk9
  have h_l9 := h_l8a.later hk9
  have h_yz9 := hn_yz.later hk9
  have hK9 := hK8a.trans hk9
  clear h_x8a h_y8a h_z8a h_xy8a h_yx8a h_l8a hn_yz hK8a hk9
  have h_x9a := h_x9.alloc (.cells #[.int .i64 (rn L), .int .i64 (rd L)] 23)
  have h_y9a := h_y9.alloc (.cells #[.int .i64 (rn L), .int .i64 (rd L)] 23)
  have h_z9a := h_z9.alloc (.cells #[.int .i64 (rn L), .int .i64 (rd L)] 23)
  have h_xy9a := h_xy9.alloc (.cells #[.int .i64 (rn L), .int .i64 (rd L)] 23)
  have h_yx9a := h_yx9.alloc (.cells #[.int .i64 (rn L), .int .i64 (rd L)] 23)
  have h_l9a := h_l9.alloc (.cells #[.int .i64 (rn L), .int .i64 (rd L)] 23)
  have h_yz9a := h_yz9.alloc (.cells #[.int .i64 (rn L), .int .i64 (rd L)] 23)
  have hn_r := Box2.new (w := w9) (p := w9.heap.size) (n := (rn L)) (d := (rd L)) (t := 23) rfl
  have hK9a := hK9.alloc (.cells #[.int .i64 (rn L), .int .i64 (rd L)] 23)
  clear h_x9 h_y9 h_z9 h_xy9 h_yx9 h_l9 h_yz9 hK9
  obtain ⟨lt_x, c0_x, c1_x, f0_x, f1_x⟩ := id h_x9a
  obtain ⟨lt_y, c0_y, c1_y, f0_y, f1_y⟩ := id h_y9a
  go_wp2_with fail
  refine (mulq _ _ _ _ (q xn xd) (q yn yd) P _ OX.out OY.out rfl rfl E.out.a6 O.out.a6).mono ?_
  rintro e w10 ⟨rfl, hk10⟩
  clear lt_x c0_x c1_x f0_x f1_x lt_y c0_y c1_y f0_y f1_y
  have h_x10 := h_x9a.later hk10
  have h_y10 := h_y9a.later hk10
  have h_z10 := h_z9a.later hk10
  have h_xy10 := h_xy9a.later hk10
  have h_yx10 := h_yx9a.later hk10
  have h_l10 := h_l9a.later hk10
  have h_yz10 := h_yz9a.later hk10
  have h_r10 := hn_r.later hk10
  have hK10 := hK9a.trans hk10
  clear h_x9a h_y9a h_z9a h_xy9a h_yx9a h_l9a h_yz9a hn_r hK9a hk10
  have h_x10a := h_x10.alloc (.cells #[.int .i64 (rn P), .int .i64 (rd P)] 23)
  have h_y10a := h_y10.alloc (.cells #[.int .i64 (rn P), .int .i64 (rd P)] 23)
  have h_z10a := h_z10.alloc (.cells #[.int .i64 (rn P), .int .i64 (rd P)] 23)
  have h_xy10a := h_xy10.alloc (.cells #[.int .i64 (rn P), .int .i64 (rd P)] 23)
  have h_yx10a := h_yx10.alloc (.cells #[.int .i64 (rn P), .int .i64 (rd P)] 23)
  have h_l10a := h_l10.alloc (.cells #[.int .i64 (rn P), .int .i64 (rd P)] 23)
  have h_yz10a := h_yz10.alloc (.cells #[.int .i64 (rn P), .int .i64 (rd P)] 23)
  have h_r10a := h_r10.alloc (.cells #[.int .i64 (rn P), .int .i64 (rd P)] 23)
  have hn_p := Box2.new (w := w10) (p := w10.heap.size) (n := (rn P)) (d := (rd P)) (t := 23) rfl
  have hK10a := hK10.alloc (.cells #[.int .i64 (rn P), .int .i64 (rd P)] 23)
  clear h_x10 h_y10 h_z10 h_xy10 h_yx10 h_l10 h_yz10 h_r10 hK10
  obtain ⟨lt_x, c0_x, c1_x, f0_x, f1_x⟩ := id h_x10a
  obtain ⟨lt_y, c0_y, c1_y, f0_y, f1_y⟩ := id h_y10a
  go_wp2_with fail
  refine (mulq _ _ _ _ (q yn yd) (q xn xd) P _ OY.out OX.out rfl rfl E.out.a7 O.out.a6).mono ?_
  rintro e w11 ⟨rfl, hk11⟩
  clear lt_x c0_x c1_x f0_x f1_x lt_y c0_y c1_y f0_y f1_y
  have h_x11 := h_x10a.later hk11
  have h_y11 := h_y10a.later hk11
  have h_z11 := h_z10a.later hk11
  have h_xy11 := h_xy10a.later hk11
  have h_yx11 := h_yx10a.later hk11
  have h_l11 := h_l10a.later hk11
  have h_yz11 := h_yz10a.later hk11
  have h_r11 := h_r10a.later hk11
  have h_p11 := hn_p.later hk11
  have hK11 := hK10a.trans hk11
  clear h_x10a h_y10a h_z10a h_xy10a h_yx10a h_l10a h_yz10a h_r10a hn_p hK10a hk11
  have h_x11a := h_x11.alloc (.cells #[.int .i64 (rn P), .int .i64 (rd P)] 23)
  have h_y11a := h_y11.alloc (.cells #[.int .i64 (rn P), .int .i64 (rd P)] 23)
  have h_z11a := h_z11.alloc (.cells #[.int .i64 (rn P), .int .i64 (rd P)] 23)
  have h_xy11a := h_xy11.alloc (.cells #[.int .i64 (rn P), .int .i64 (rd P)] 23)
  have h_yx11a := h_yx11.alloc (.cells #[.int .i64 (rn P), .int .i64 (rd P)] 23)
  have h_l11a := h_l11.alloc (.cells #[.int .i64 (rn P), .int .i64 (rd P)] 23)
  have h_yz11a := h_yz11.alloc (.cells #[.int .i64 (rn P), .int .i64 (rd P)] 23)
  have h_r11a := h_r11.alloc (.cells #[.int .i64 (rn P), .int .i64 (rd P)] 23)
  have h_p11a := h_p11.alloc (.cells #[.int .i64 (rn P), .int .i64 (rd P)] 23)
  have hn_q := Box2.new (w := w11) (p := w11.heap.size) (n := (rn P)) (d := (rd P)) (t := 23) rfl
  have hK11a := hK11.alloc (.cells #[.int .i64 (rn P), .int .i64 (rd P)] 23)
  clear h_x11 h_y11 h_z11 h_xy11 h_yx11 h_l11 h_yz11 h_r11 h_p11 hK11
  obtain ⟨lt_p, c0_p, c1_p, f0_p, f1_p⟩ := id h_p11a
  obtain ⟨lt_z, c0_z, c1_z, f0_z, f1_z⟩ := id h_z11a
  go_wp2_with fail
  refine (mulq _ _ _ _ P (q zn zd) Q _ O.out.a6 OZ.out (q_r P) rfl E.out.a8 O.out.a8).mono ?_
  rintro e w12 ⟨rfl, hk12⟩
  clear lt_p c0_p c1_p f0_p f1_p lt_z c0_z c1_z f0_z f1_z
  have h_x12 := h_x11a.later hk12
  have h_y12 := h_y11a.later hk12
  have h_z12 := h_z11a.later hk12
  have h_xy12 := h_xy11a.later hk12
  have h_yx12 := h_yx11a.later hk12
  have h_l12 := h_l11a.later hk12
  have h_yz12 := h_yz11a.later hk12
  have h_r12 := h_r11a.later hk12
  have h_p12 := h_p11a.later hk12
  have h_q12 := hn_q.later hk12
  have hK12 := hK11a.trans hk12
  clear h_x11a h_y11a h_z11a h_xy11a h_yx11a h_l11a h_yz11a h_r11a h_p11a hn_q hK11a hk12
  have h_x12a := h_x12.alloc (.cells #[.int .i64 (rn Q), .int .i64 (rd Q)] 23)
  have h_y12a := h_y12.alloc (.cells #[.int .i64 (rn Q), .int .i64 (rd Q)] 23)
  have h_z12a := h_z12.alloc (.cells #[.int .i64 (rn Q), .int .i64 (rd Q)] 23)
  have h_xy12a := h_xy12.alloc (.cells #[.int .i64 (rn Q), .int .i64 (rd Q)] 23)
  have h_yx12a := h_yx12.alloc (.cells #[.int .i64 (rn Q), .int .i64 (rd Q)] 23)
  have h_l12a := h_l12.alloc (.cells #[.int .i64 (rn Q), .int .i64 (rd Q)] 23)
  have h_yz12a := h_yz12.alloc (.cells #[.int .i64 (rn Q), .int .i64 (rd Q)] 23)
  have h_r12a := h_r12.alloc (.cells #[.int .i64 (rn Q), .int .i64 (rd Q)] 23)
  have h_p12a := h_p12.alloc (.cells #[.int .i64 (rn Q), .int .i64 (rd Q)] 23)
  have h_q12a := h_q12.alloc (.cells #[.int .i64 (rn Q), .int .i64 (rd Q)] 23)
  have hn_pz := Box2.new (w := w12) (p := w12.heap.size) (n := (rn Q)) (d := (rd Q)) (t := 23) rfl
  have hK12a := hK12.alloc (.cells #[.int .i64 (rn Q), .int .i64 (rd Q)] 23)
  clear h_x12 h_y12 h_z12 h_xy12 h_yx12 h_l12 h_yz12 h_r12 h_p12 h_q12 hK12
  obtain ⟨lt_y, c0_y, c1_y, f0_y, f1_y⟩ := id h_y12a
  obtain ⟨lt_z, c0_z, c1_z, f0_z, f1_z⟩ := id h_z12a
  go_wp2_with fail
  refine (mulq _ _ _ _ (q yn yd) (q zn zd) R _ OY.out OZ.out rfl rfl E.out.a9 O.out.a9).mono ?_
  rintro e w13 ⟨rfl, hk13⟩
  clear lt_y c0_y c1_y f0_y f1_y lt_z c0_z c1_z f0_z f1_z
  have h_x13 := h_x12a.later hk13
  have h_y13 := h_y12a.later hk13
  have h_z13 := h_z12a.later hk13
  have h_xy13 := h_xy12a.later hk13
  have h_yx13 := h_yx12a.later hk13
  have h_l13 := h_l12a.later hk13
  have h_yz13 := h_yz12a.later hk13
  have h_r13 := h_r12a.later hk13
  have h_p13 := h_p12a.later hk13
  have h_q13 := h_q12a.later hk13
  have h_pz13 := hn_pz.later hk13
  have hK13 := hK12a.trans hk13
  clear h_x12a h_y12a h_z12a h_xy12a h_yx12a h_l12a h_yz12a h_r12a h_p12a h_q12a hn_pz hK12a hk13
  have h_x13a := h_x13.alloc (.cells #[.int .i64 (rn R), .int .i64 (rd R)] 23)
  have h_y13a := h_y13.alloc (.cells #[.int .i64 (rn R), .int .i64 (rd R)] 23)
  have h_z13a := h_z13.alloc (.cells #[.int .i64 (rn R), .int .i64 (rd R)] 23)
  have h_xy13a := h_xy13.alloc (.cells #[.int .i64 (rn R), .int .i64 (rd R)] 23)
  have h_yx13a := h_yx13.alloc (.cells #[.int .i64 (rn R), .int .i64 (rd R)] 23)
  have h_l13a := h_l13.alloc (.cells #[.int .i64 (rn R), .int .i64 (rd R)] 23)
  have h_yz13a := h_yz13.alloc (.cells #[.int .i64 (rn R), .int .i64 (rd R)] 23)
  have h_r13a := h_r13.alloc (.cells #[.int .i64 (rn R), .int .i64 (rd R)] 23)
  have h_p13a := h_p13.alloc (.cells #[.int .i64 (rn R), .int .i64 (rd R)] 23)
  have h_q13a := h_q13.alloc (.cells #[.int .i64 (rn R), .int .i64 (rd R)] 23)
  have h_pz13a := h_pz13.alloc (.cells #[.int .i64 (rn R), .int .i64 (rd R)] 23)
  have hn_yzm := Box2.new (w := w13) (p := w13.heap.size) (n := (rn R)) (d := (rd R)) (t := 23) rfl
  have hK13a := hK13.alloc (.cells #[.int .i64 (rn R), .int .i64 (rd R)] 23)
  clear h_x13 h_y13 h_z13 h_xy13 h_yx13 h_l13 h_yz13 h_r13 h_p13 h_q13 h_pz13 hK13
  obtain ⟨lt_x, c0_x, c1_x, f0_x, f1_x⟩ := id h_x13a
  obtain ⟨lt_yzm, c0_yzm, c1_yzm, f0_yzm, f1_yzm⟩ := id hn_yzm
  go_wp2_with fail
  refine (mulq _ _ _ _ (q xn xd) R Q _ OX.out O.out.a9 rfl (q_r R) E.out.a10 O.out.a8).mono ?_
  rintro e w14 ⟨rfl, hk14⟩
  clear lt_x c0_x c1_x f0_x f1_x lt_yzm c0_yzm c1_yzm f0_yzm f1_yzm
  have h_x14 := h_x13a.later hk14
  have h_y14 := h_y13a.later hk14
  have h_z14 := h_z13a.later hk14
  have h_xy14 := h_xy13a.later hk14
  have h_yx14 := h_yx13a.later hk14
  have h_l14 := h_l13a.later hk14
  have h_yz14 := h_yz13a.later hk14
  have h_r14 := h_r13a.later hk14
  have h_p14 := h_p13a.later hk14
  have h_q14 := h_q13a.later hk14
  have h_pz14 := h_pz13a.later hk14
  have h_yzm14 := hn_yzm.later hk14
  have hK14 := hK13a.trans hk14
  clear h_x13a h_y13a h_z13a h_xy13a h_yx13a h_l13a h_yz13a h_r13a h_p13a h_q13a h_pz13a hn_yzm hK13a hk14
  have h_x14a := h_x14.alloc (.cells #[.int .i64 (rn Q), .int .i64 (rd Q)] 23)
  have h_y14a := h_y14.alloc (.cells #[.int .i64 (rn Q), .int .i64 (rd Q)] 23)
  have h_z14a := h_z14.alloc (.cells #[.int .i64 (rn Q), .int .i64 (rd Q)] 23)
  have h_xy14a := h_xy14.alloc (.cells #[.int .i64 (rn Q), .int .i64 (rd Q)] 23)
  have h_yx14a := h_yx14.alloc (.cells #[.int .i64 (rn Q), .int .i64 (rd Q)] 23)
  have h_l14a := h_l14.alloc (.cells #[.int .i64 (rn Q), .int .i64 (rd Q)] 23)
  have h_yz14a := h_yz14.alloc (.cells #[.int .i64 (rn Q), .int .i64 (rd Q)] 23)
  have h_r14a := h_r14.alloc (.cells #[.int .i64 (rn Q), .int .i64 (rd Q)] 23)
  have h_p14a := h_p14.alloc (.cells #[.int .i64 (rn Q), .int .i64 (rd Q)] 23)
  have h_q14a := h_q14.alloc (.cells #[.int .i64 (rn Q), .int .i64 (rd Q)] 23)
  have h_pz14a := h_pz14.alloc (.cells #[.int .i64 (rn Q), .int .i64 (rd Q)] 23)
  have h_yzm14a := h_yzm14.alloc (.cells #[.int .i64 (rn Q), .int .i64 (rd Q)] 23)
  have hn_px := Box2.new (w := w14) (p := w14.heap.size) (n := (rn Q)) (d := (rd Q)) (t := 23) rfl
  have hK14a := hK14.alloc (.cells #[.int .i64 (rn Q), .int .i64 (rd Q)] 23)
  clear h_x14 h_y14 h_z14 h_xy14 h_yx14 h_l14 h_yz14 h_r14 h_p14 h_q14 h_pz14 h_yzm14 hK14
  obtain ⟨lt_x, c0_x, c1_x, f0_x, f1_x⟩ := id h_x14a
  obtain ⟨lt_yz, c0_yz, c1_yz, f0_yz, f1_yz⟩ := id h_yz14a
  go_wp2_with fail
  refine (mulq _ _ _ _ (q xn xd) S2 T _ OX.out O.out.a4 rfl (q_r S2) E.out.a11 O.out.a11).mono ?_
  rintro e w15 ⟨rfl, hk15⟩
  clear lt_x c0_x c1_x f0_x f1_x lt_yz c0_yz c1_yz f0_yz f1_yz
  have h_x15 := h_x14a.later hk15
  have h_y15 := h_y14a.later hk15
  have h_z15 := h_z14a.later hk15
  have h_xy15 := h_xy14a.later hk15
  have h_yx15 := h_yx14a.later hk15
  have h_l15 := h_l14a.later hk15
  have h_yz15 := h_yz14a.later hk15
  have h_r15 := h_r14a.later hk15
  have h_p15 := h_p14a.later hk15
  have h_q15 := h_q14a.later hk15
  have h_pz15 := h_pz14a.later hk15
  have h_yzm15 := h_yzm14a.later hk15
  have h_px15 := hn_px.later hk15
  have hK15 := hK14a.trans hk15
  clear h_x14a h_y14a h_z14a h_xy14a h_yx14a h_l14a h_yz14a h_r14a h_p14a h_q14a h_pz14a h_yzm14a hn_px hK14a hk15
  have h_x15a := h_x15.alloc (.cells #[.int .i64 (rn T), .int .i64 (rd T)] 23)
  have h_y15a := h_y15.alloc (.cells #[.int .i64 (rn T), .int .i64 (rd T)] 23)
  have h_z15a := h_z15.alloc (.cells #[.int .i64 (rn T), .int .i64 (rd T)] 23)
  have h_xy15a := h_xy15.alloc (.cells #[.int .i64 (rn T), .int .i64 (rd T)] 23)
  have h_yx15a := h_yx15.alloc (.cells #[.int .i64 (rn T), .int .i64 (rd T)] 23)
  have h_l15a := h_l15.alloc (.cells #[.int .i64 (rn T), .int .i64 (rd T)] 23)
  have h_yz15a := h_yz15.alloc (.cells #[.int .i64 (rn T), .int .i64 (rd T)] 23)
  have h_r15a := h_r15.alloc (.cells #[.int .i64 (rn T), .int .i64 (rd T)] 23)
  have h_p15a := h_p15.alloc (.cells #[.int .i64 (rn T), .int .i64 (rd T)] 23)
  have h_q15a := h_q15.alloc (.cells #[.int .i64 (rn T), .int .i64 (rd T)] 23)
  have h_pz15a := h_pz15.alloc (.cells #[.int .i64 (rn T), .int .i64 (rd T)] 23)
  have h_yzm15a := h_yzm15.alloc (.cells #[.int .i64 (rn T), .int .i64 (rd T)] 23)
  have h_px15a := h_px15.alloc (.cells #[.int .i64 (rn T), .int .i64 (rd T)] 23)
  have hn_s := Box2.new (w := w15) (p := w15.heap.size) (n := (rn T)) (d := (rd T)) (t := 23) rfl
  have hK15a := hK15.alloc (.cells #[.int .i64 (rn T), .int .i64 (rd T)] 23)
  clear h_x15 h_y15 h_z15 h_xy15 h_yx15 h_l15 h_yz15 h_r15 h_p15 h_q15 h_pz15 h_yzm15 h_px15 hK15
  obtain ⟨lt_x, c0_x, c1_x, f0_x, f1_x⟩ := id h_x15a
  obtain ⟨lt_z, c0_z, c1_z, f0_z, f1_z⟩ := id h_z15a
  go_wp2_with fail
  refine (mulq _ _ _ _ (q xn xd) (q zn zd) V _ OX.out OZ.out rfl rfl E.out.a12 O.out.a12).mono ?_
  rintro e w16 ⟨rfl, hk16⟩
  clear lt_x c0_x c1_x f0_x f1_x lt_z c0_z c1_z f0_z f1_z
  have h_x16 := h_x15a.later hk16
  have h_y16 := h_y15a.later hk16
  have h_z16 := h_z15a.later hk16
  have h_xy16 := h_xy15a.later hk16
  have h_yx16 := h_yx15a.later hk16
  have h_l16 := h_l15a.later hk16
  have h_yz16 := h_yz15a.later hk16
  have h_r16 := h_r15a.later hk16
  have h_p16 := h_p15a.later hk16
  have h_q16 := h_q15a.later hk16
  have h_pz16 := h_pz15a.later hk16
  have h_yzm16 := h_yzm15a.later hk16
  have h_px16 := h_px15a.later hk16
  have h_s16 := hn_s.later hk16
  have hK16 := hK15a.trans hk16
  clear h_x15a h_y15a h_z15a h_xy15a h_yx15a h_l15a h_yz15a h_r15a h_p15a h_q15a h_pz15a h_yzm15a h_px15a hn_s hK15a hk16
  have h_x16a := h_x16.alloc (.cells #[.int .i64 (rn V), .int .i64 (rd V)] 23)
  have h_y16a := h_y16.alloc (.cells #[.int .i64 (rn V), .int .i64 (rd V)] 23)
  have h_z16a := h_z16.alloc (.cells #[.int .i64 (rn V), .int .i64 (rd V)] 23)
  have h_xy16a := h_xy16.alloc (.cells #[.int .i64 (rn V), .int .i64 (rd V)] 23)
  have h_yx16a := h_yx16.alloc (.cells #[.int .i64 (rn V), .int .i64 (rd V)] 23)
  have h_l16a := h_l16.alloc (.cells #[.int .i64 (rn V), .int .i64 (rd V)] 23)
  have h_yz16a := h_yz16.alloc (.cells #[.int .i64 (rn V), .int .i64 (rd V)] 23)
  have h_r16a := h_r16.alloc (.cells #[.int .i64 (rn V), .int .i64 (rd V)] 23)
  have h_p16a := h_p16.alloc (.cells #[.int .i64 (rn V), .int .i64 (rd V)] 23)
  have h_q16a := h_q16.alloc (.cells #[.int .i64 (rn V), .int .i64 (rd V)] 23)
  have h_pz16a := h_pz16.alloc (.cells #[.int .i64 (rn V), .int .i64 (rd V)] 23)
  have h_yzm16a := h_yzm16.alloc (.cells #[.int .i64 (rn V), .int .i64 (rd V)] 23)
  have h_px16a := h_px16.alloc (.cells #[.int .i64 (rn V), .int .i64 (rd V)] 23)
  have h_s16a := h_s16.alloc (.cells #[.int .i64 (rn V), .int .i64 (rd V)] 23)
  have hn_xz := Box2.new (w := w16) (p := w16.heap.size) (n := (rn V)) (d := (rd V)) (t := 23) rfl
  have hK16a := hK16.alloc (.cells #[.int .i64 (rn V), .int .i64 (rd V)] 23)
  clear h_x16 h_y16 h_z16 h_xy16 h_yx16 h_l16 h_yz16 h_r16 h_p16 h_q16 h_pz16 h_yzm16 h_px16 h_s16 hK16
  obtain ⟨lt_p, c0_p, c1_p, f0_p, f1_p⟩ := id h_p16a
  obtain ⟨lt_xz, c0_xz, c1_xz, f0_xz, f1_xz⟩ := id hn_xz
  go_wp2_with fail
  refine (addq _ _ _ _ P V T _ O.out.a6 O.out.a12 (q_r P) (q_r V) E.out.a13 O.out.a11).mono ?_
  rintro e w17 ⟨rfl, hk17⟩
  clear lt_p c0_p c1_p f0_p f1_p lt_xz c0_xz c1_xz f0_xz f1_xz
  have h_xy17 := h_xy16a.later hk17
  have h_yx17 := h_yx16a.later hk17
  have h_l17 := h_l16a.later hk17
  have h_r17 := h_r16a.later hk17
  have h_p17 := h_p16a.later hk17
  have h_q17 := h_q16a.later hk17
  have h_pz17 := h_pz16a.later hk17
  have h_px17 := h_px16a.later hk17
  have h_s17 := h_s16a.later hk17
  have hK17 := hK16a.trans hk17
  clear h_x16a h_y16a h_z16a h_xy16a h_yx16a h_l16a h_yz16a h_r16a h_p16a h_q16a h_pz16a h_yzm16a h_px16a h_s16a hn_xz hK16a hk17
  have h_xy17a := h_xy17.alloc (.cells #[.int .i64 (rn T), .int .i64 (rd T)] 23)
  have h_yx17a := h_yx17.alloc (.cells #[.int .i64 (rn T), .int .i64 (rd T)] 23)
  have h_l17a := h_l17.alloc (.cells #[.int .i64 (rn T), .int .i64 (rd T)] 23)
  have h_r17a := h_r17.alloc (.cells #[.int .i64 (rn T), .int .i64 (rd T)] 23)
  have h_p17a := h_p17.alloc (.cells #[.int .i64 (rn T), .int .i64 (rd T)] 23)
  have h_q17a := h_q17.alloc (.cells #[.int .i64 (rn T), .int .i64 (rd T)] 23)
  have h_pz17a := h_pz17.alloc (.cells #[.int .i64 (rn T), .int .i64 (rd T)] 23)
  have h_px17a := h_px17.alloc (.cells #[.int .i64 (rn T), .int .i64 (rd T)] 23)
  have h_s17a := h_s17.alloc (.cells #[.int .i64 (rn T), .int .i64 (rd T)] 23)
  have hn_t := Box2.new (w := w17) (p := w17.heap.size) (n := (rn T)) (d := (rd T)) (t := 23) rfl
  have hK17a := hK17.alloc (.cells #[.int .i64 (rn T), .int .i64 (rd T)] 23)
  clear h_xy17 h_yx17 h_l17 h_r17 h_p17 h_q17 h_pz17 h_px17 h_s17 hK17
  clear E O OX OY OZ
  go_wp2_with fail
  have hz : ∀ j : Nat, j < 13 → ((w17.alloc (.cells #[.int .i64 (rn T), .int .i64 (rd T)] 23)).alloc (.cells #[.int .i64 0, .int .i64 0, .int .i64 0, .int .i64 0, .int .i64 0, .int .i64 0, .int .i64 0, .int .i64 0, .int .i64 0, .int .i64 0, .int .i64 0, .int .i64 0, .int .i64 0] 24)).cell? ⟨(w17.alloc (.cells #[.int .i64 (rn T), .int .i64 (rd T)] 23)).heap.size, j, none⟩ = some (.int .i64 0) := fun j hj => zeros (List.replicate 13 (.int .i64 0)) (fun v hv => List.eq_of_mem_replicate hv) _ _ j (by simpa using hj)
  have HZ := Lib.hid hz
  clear hz
  have h_xy17az := h_xy17a.alloc (.cells #[.int .i64 0, .int .i64 0, .int .i64 0, .int .i64 0, .int .i64 0, .int .i64 0, .int .i64 0, .int .i64 0, .int .i64 0, .int .i64 0, .int .i64 0, .int .i64 0, .int .i64 0] 24)
  clear h_xy17a
  have h_yx17az := h_yx17a.alloc (.cells #[.int .i64 0, .int .i64 0, .int .i64 0, .int .i64 0, .int .i64 0, .int .i64 0, .int .i64 0, .int .i64 0, .int .i64 0, .int .i64 0, .int .i64 0, .int .i64 0, .int .i64 0] 24)
  clear h_yx17a
  have h_l17az := h_l17a.alloc (.cells #[.int .i64 0, .int .i64 0, .int .i64 0, .int .i64 0, .int .i64 0, .int .i64 0, .int .i64 0, .int .i64 0, .int .i64 0, .int .i64 0, .int .i64 0, .int .i64 0, .int .i64 0] 24)
  clear h_l17a
  have h_r17az := h_r17a.alloc (.cells #[.int .i64 0, .int .i64 0, .int .i64 0, .int .i64 0, .int .i64 0, .int .i64 0, .int .i64 0, .int .i64 0, .int .i64 0, .int .i64 0, .int .i64 0, .int .i64 0, .int .i64 0] 24)
  clear h_r17a
  have h_p17az := h_p17a.alloc (.cells #[.int .i64 0, .int .i64 0, .int .i64 0, .int .i64 0, .int .i64 0, .int .i64 0, .int .i64 0, .int .i64 0, .int .i64 0, .int .i64 0, .int .i64 0, .int .i64 0, .int .i64 0] 24)
  clear h_p17a
  have h_q17az := h_q17a.alloc (.cells #[.int .i64 0, .int .i64 0, .int .i64 0, .int .i64 0, .int .i64 0, .int .i64 0, .int .i64 0, .int .i64 0, .int .i64 0, .int .i64 0, .int .i64 0, .int .i64 0, .int .i64 0] 24)
  clear h_q17a
  have h_pz17az := h_pz17a.alloc (.cells #[.int .i64 0, .int .i64 0, .int .i64 0, .int .i64 0, .int .i64 0, .int .i64 0, .int .i64 0, .int .i64 0, .int .i64 0, .int .i64 0, .int .i64 0, .int .i64 0, .int .i64 0] 24)
  clear h_pz17a
  have h_px17az := h_px17a.alloc (.cells #[.int .i64 0, .int .i64 0, .int .i64 0, .int .i64 0, .int .i64 0, .int .i64 0, .int .i64 0, .int .i64 0, .int .i64 0, .int .i64 0, .int .i64 0, .int .i64 0, .int .i64 0] 24)
  clear h_px17a
  have h_s17az := h_s17a.alloc (.cells #[.int .i64 0, .int .i64 0, .int .i64 0, .int .i64 0, .int .i64 0, .int .i64 0, .int .i64 0, .int .i64 0, .int .i64 0, .int .i64 0, .int .i64 0, .int .i64 0, .int .i64 0] 24)
  clear h_s17a
  have hn_tz := hn_t.alloc (.cells #[.int .i64 0, .int .i64 0, .int .i64 0, .int .i64 0, .int .i64 0, .int .i64 0, .int .i64 0, .int .i64 0, .int .i64 0, .int .i64 0, .int .i64 0, .int .i64 0, .int .i64 0] 24)
  clear hn_t
  have hK17az := hK17a.alloc (.cells #[.int .i64 0, .int .i64 0, .int .i64 0, .int .i64 0, .int .i64 0, .int .i64 0, .int .i64 0, .int .i64 0, .int .i64 0, .int .i64 0, .int .i64 0, .int .i64 0, .int .i64 0] 24)
  clear hK17a
  have hps : (w17.alloc (.cells #[.int .i64 (rn T), .int .i64 (rd T)] 23)).heap.size < ((w17.alloc (.cells #[.int .i64 (rn T), .int .i64 (rd T)] 23)).alloc (.cells #[.int .i64 0, .int .i64 0, .int .i64 0, .int .i64 0, .int .i64 0, .int .i64 0, .int .i64 0, .int .i64 0, .int .i64 0, .int .i64 0, .int .i64 0, .int .i64 0, .int .i64 0] 24)).heap.size := by simp
  simp only [World.size_alloc] at HZ hps
  generalize (w17.alloc (.cells #[.int .i64 (rn T), .int .i64 (rd T)] 23)).alloc (.cells #[.int .i64 0, .int .i64 0, .int .i64 0, .int .i64 0, .int .i64 0, .int .i64 0, .int .i64 0, .int .i64 0, .int .i64 0, .int .i64 0, .int .i64 0, .int .i64 0, .int .i64 0] 24) = W9 at *
  generalize w17.heap.size + 1 = pz at *
  go_loop [148] (fun i => ∃ k : Nat, k ≤ 13 ∧ i = .int .i64 k) (fun i => (13 - intOf i).toNat)
  case atStart => exact ⟨0, by omega, rfl⟩
  case round =>
    obtain ⟨k, hk, rfl⟩ := hrel
    by_cases hlt : k < 13
    · have hc := HZ.out k hlt
      clear HZ
      go_wp2
      go_round
      case rel => exact ⟨k + 1, by omega, by go_num⟩
      case measure => simp [intOf]; omega
    · obtain rfl : k = 13 := by omega
      clear HZ hlt
      obtain ⟨lt_xy, c0_xy, c1_xy, f0_xy, f1_xy⟩ := id h_xy17az
      obtain ⟨lt_yx, c0_yx, c1_yx, f0_yx, f1_yx⟩ := id h_yx17az
      obtain ⟨lt_l, c0_l, c1_l, f0_l, f1_l⟩ := id h_l17az
      obtain ⟨lt_r, c0_r, c1_r, f0_r, f1_r⟩ := id h_r17az
      obtain ⟨lt_p, c0_p, c1_p, f0_p, f1_p⟩ := id h_p17az
      obtain ⟨lt_q, c0_q, c1_q, f0_q, f1_q⟩ := id h_q17az
      obtain ⟨lt_pz, c0_pz, c1_pz, f0_pz, f1_pz⟩ := id h_pz17az
      obtain ⟨lt_px, c0_px, c1_px, f0_px, f1_px⟩ := id h_px17az
      obtain ⟨lt_s, c0_s, c1_s, f0_s, f1_s⟩ := id h_s17az
      obtain ⟨lt_t, c0_t, c1_t, f0_t, f1_t⟩ := id hn_tz
      go_wp2
      go_ret
      exact ⟨rfl, hK17az⟩

end Go.Proofs.Ytkbbofpjelgiiaa
