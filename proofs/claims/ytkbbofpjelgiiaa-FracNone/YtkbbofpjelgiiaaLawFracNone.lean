/-
  The law FracNone returns true: with what is below 0 as much it comes to 0; times 1 it is itself, times 0 it is 0; the mean of two lies between them. No condition.
-/
import Derived.Test.YtkbbofpjelgiiaaFWalkE
namespace Go.Proofs.Ytkbbofpjelgiiaa
open Go.RowKit

theorem okR_0 : OkR 0 := by unfold OkR; decide
theorem zero_sum (n d : Int) : (0 : Rat) = q n d + q (-n) d := by rw [q_neg, Rat.add_neg_cancel]
theorem q_half : q 1 2 = (1 / 2 : Rat) := by unfold q; rw [Rat.mkRat_eq_div]; rfl
theorem sm_half {a b c d : Int} (h : Sm a b) (k : Sm c d) : OkR ((q a b + q c d) * q 1 2) := by
  obtain ⟨a0, a1, b0, b1⟩ := h
  obtain ⟨c0, c1, d0, d1⟩ := k
  have m1 := mul_abs a d 1000 40 a0 a1 (by omega) d1
  have m2 := mul_abs c b 1000 40 c0 c1 (by omega) b1
  have m3 := pos_mul b d 40 40 b0 d0 b1 d1
  rw [← q_add a b c d b0 d0, ← q_mul _ _ 1 2 (by omega) (by omega)]
  exact okR_q _ _ (by omega) (by omega) (by omega) (by omega)
theorem sm_okR {a b : Int} (h : okB a b = true) : OkR (q a b) := low_ok h
theorem cmp_qr (a b : Int) (r : Rat) (hb : 1 ≤ b) : cmpV (a * rd r) (rn r * b) = cmpR (q a b) r ∧ cmpV (rn r * b) (a * rd r) = cmpR r (q a b) := by
  have hd : 1 ≤ rd r := by have := r.den_pos; unfold rd; omega
  rw [cmp_q a b (rn r) (rd r) hb hd, cmp_q (rn r) (rd r) a b hd hb, q_r]
  exact ⟨rfl, rfl⟩
theorem mean_left (a b c d : Int) (hb : 1 ≤ b) (hd : 1 ≤ d) {M : Rat} (h : M = (q a b + q c d) * q 1 2) : cmpV (a * rd M) (rn M * b) = cmpV (a * d) (c * b) := by
  rw [(cmp_qr a b M hb).1, cmp_q a b c d hb hd, h, q_half]
  generalize q a b = F
  generalize q c d = G
  unfold cmpR
  have e1 : F < (F + G) * (1 / 2) ↔ F < G := by constructor <;> intro h <;> grind
  have e2 : (F + G) * (1 / 2) < F ↔ G < F := by constructor <;> intro h <;> grind
  simp only [e1, e2]
theorem mean_right (a b c d : Int) (hb : 1 ≤ b) (hd : 1 ≤ d) {M : Rat} (h : M = (q a b + q c d) * q 1 2) : cmpV (rn M * d) (c * rd M) = cmpV (a * d) (c * b) := by
  rw [(cmp_qr c d M hd).2, cmp_q a b c d hb hd, h, q_half]
  generalize q a b = F
  generalize q c d = G
  unfold cmpR
  have e1 : (F + G) * (1 / 2) < G ↔ F < G := by constructor <;> intro h <;> grind
  have e2 : G < (F + G) * (1 / 2) ↔ G < F := by constructor <;> intro h <;> grind
  simp only [e1, e2]

set_option maxRecDepth 100000 in
set_option maxHeartbeats 4000000 in
theorem fracNone_walk (a b c d : Int) (w : World) :
    Calls Try.prog 10 #[.int .i64 a, .int .i64 b, .int .i64 c, .int .i64 d] w fun e w' => e = .returned (.bool true) ∧ Kept w w' := by
  go_enter Try.func10, Try.ntmps10
  go_wp2_with fail
  refine (begun_any _).mono ?_
  rintro e w1 ⟨rfl, hK1⟩
  go_wp2_with fail
  refine (small_any _ _ _).mono ?_
  rintro e w2 ⟨fn, fd, x0, x1, x2, x3, rfl, hk2⟩
  have hK2 := hK1.trans hk2
  clear hK1 hk2
  go_wp2_with fail
  refine (small_any _ _ _).mono ?_
  rintro e w3 ⟨gn, gd, y0, y1, y2, y3, rfl, hk3⟩
  have hK3 := hK2.trans hk3
  clear hK2 hk3
  have hn_f := Box2.new (w := w3) (p := w3.heap.size) (n := fn) (d := fd) (t := 23) rfl
  have hK3a := hK3.alloc (.cells #[.int .i64 fn, .int .i64 fd] 23)
  clear hK3
  have hn_fa := hn_f.alloc (.cells #[.int .i64 gn, .int .i64 gd] 23)
  have hn_g := Box2.new (w := (w3.alloc (.cells #[.int .i64 fn, .int .i64 fd] 23))) (p := w3.heap.size + 1) (n := gn) (d := gd) (t := 23) (by simp)
  have hK3aa := hK3a.alloc (.cells #[.int .i64 gn, .int .i64 gd] 23)
  clear hn_f hK3a
  have SF : Sm fn fd := ⟨x0, x1, x2, x3⟩
  have SG : Sm gn gd := ⟨y0, y1, y2, y3⟩
  have OF := Lib.hid (sm_ok SF)
  have OG := Lib.hid (sm_ok SG)
  have ON := Lib.hid (show okB (-fn) fd = true by rw [ok_iff]; omega)
  have ZE := Lib.hid (zero_sum fn fd)
  obtain ⟨S, hS⟩ : ∃ S : Rat, S = q fn fd + q gn gd := ⟨_, rfl⟩
  obtain ⟨M, hM⟩ : ∃ M : Rat, M = S * q 1 2 := ⟨_, rfl⟩
  have OS := Lib.hid (show OkR S by rw [hS]; exact sm_add SF SG)
  have OM := Lib.hid (show OkR M by rw [hM, hS]; exact sm_half SF SG)
  have C2 := Lib.hid (mean_left fn fd gn gd x2 y2 (by rw [hM, hS] : M = (q fn fd + q gn gd) * q 1 2))
  have C3 := Lib.hid (mean_right fn fd gn gd x2 y2 (by rw [hM, hS] : M = (q fn fd + q gn gd) * q 1 2))
  have ES := Lib.hid hS
  have EM := Lib.hid hM
  clear hS hM SF SG
  obtain ⟨lt_f, c0_f, c1_f, f0_f, f1_f⟩ := id hn_fa
  go_wp2_with fail
  refine (addq _ _ _ _ (q fn fd) (q (-fn) fd) 0 _ OF.out ON.out rfl rfl ZE.out okR_0).mono ?_
  rintro e w4 ⟨rfl, hk4⟩
  rw [show rn 0 = 0 from rfl, show rd 0 = 1 from rfl]
  clear lt_f c0_f c1_f f0_f f1_f
  have h_f4 := hn_fa.later hk4
  have h_g4 := hn_g.later hk4
  have hK4 := hK3aa.trans hk4
  clear hn_fa hn_g hK3aa hk4
  have h_f4a := h_f4.alloc (.cells #[.int .i64 0, .int .i64 1] 23)
  have h_g4a := h_g4.alloc (.cells #[.int .i64 0, .int .i64 1] 23)
  have hn_x := Box2.new (w := w4) (p := w4.heap.size) (n := 0) (d := 1) (t := 23) rfl
  have hK4a := hK4.alloc (.cells #[.int .i64 0, .int .i64 1] 23)
  clear h_f4 h_g4 hK4
  obtain ⟨lt_f, c0_f, c1_f, f0_f, f1_f⟩ := id h_f4a
  go_wp2_with fail
  refine (mulq _ _ _ _ (q fn fd) 1 (q fn fd) _ OF.out (by decide) rfl (by decide) (Rat.mul_one _).symm (sm_okR OF.out)).mono ?_
  rintro e w5 ⟨rfl, hk5⟩
  clear lt_f c0_f c1_f f0_f f1_f
  have h_f5 := h_f4a.later hk5
  have h_g5 := h_g4a.later hk5
  have h_x5 := hn_x.later hk5
  have hK5 := hK4a.trans hk5
  clear h_f4a h_g4a hn_x hK4a hk5
  have h_f5a := h_f5.alloc (.cells #[.int .i64 (rn (q fn fd)), .int .i64 (rd (q fn fd))] 23)
  have h_g5a := h_g5.alloc (.cells #[.int .i64 (rn (q fn fd)), .int .i64 (rd (q fn fd))] 23)
  have h_x5a := h_x5.alloc (.cells #[.int .i64 (rn (q fn fd)), .int .i64 (rd (q fn fd))] 23)
  have hn_y := Box2.new (w := w5) (p := w5.heap.size) (n := (rn (q fn fd))) (d := (rd (q fn fd))) (t := 23) rfl
  have hK5a := hK5.alloc (.cells #[.int .i64 (rn (q fn fd)), .int .i64 (rd (q fn fd))] 23)
  clear h_f5 h_g5 h_x5 hK5
  obtain ⟨lt_f, c0_f, c1_f, f0_f, f1_f⟩ := id h_f5a
  go_wp2_with fail
  refine (normq _ _ (q fn fd) _ OF.out rfl).mono ?_
  rintro e w6 ⟨rfl, hk6⟩
  clear lt_f c0_f c1_f f0_f f1_f
  have h_f6 := h_f5a.later hk6
  have h_g6 := h_g5a.later hk6
  have h_x6 := h_x5a.later hk6
  have h_y6 := hn_y.later hk6
  have hK6 := hK5a.trans hk6
  clear h_f5a h_g5a h_x5a hn_y hK5a hk6
  have h_f6a := h_f6.alloc (.cells #[.int .i64 (rn (q fn fd)), .int .i64 (rd (q fn fd))] 23)
  have h_g6a := h_g6.alloc (.cells #[.int .i64 (rn (q fn fd)), .int .i64 (rd (q fn fd))] 23)
  have h_x6a := h_x6.alloc (.cells #[.int .i64 (rn (q fn fd)), .int .i64 (rd (q fn fd))] 23)
  have h_y6a := h_y6.alloc (.cells #[.int .i64 (rn (q fn fd)), .int .i64 (rd (q fn fd))] 23)
  have hn_n := Box2.new (w := w6) (p := w6.heap.size) (n := (rn (q fn fd))) (d := (rd (q fn fd))) (t := 23) rfl
  have hK6a := hK6.alloc (.cells #[.int .i64 (rn (q fn fd)), .int .i64 (rd (q fn fd))] 23)
  clear h_f6 h_g6 h_x6 h_y6 hK6
  obtain ⟨lt_f, c0_f, c1_f, f0_f, f1_f⟩ := id h_f6a
  go_wp2_with fail
  refine (mulq _ _ _ _ (q fn fd) 0 0 _ OF.out (by decide) rfl (by decide) (Rat.mul_zero _).symm okR_0).mono ?_
  rintro e w7 ⟨rfl, hk7⟩
  rw [show rn 0 = 0 from rfl, show rd 0 = 1 from rfl]
  clear lt_f c0_f c1_f f0_f f1_f
  have h_f7 := h_f6a.later hk7
  have h_g7 := h_g6a.later hk7
  have h_x7 := h_x6a.later hk7
  have h_y7 := h_y6a.later hk7
  have h_n7 := hn_n.later hk7
  have hK7 := hK6a.trans hk7
  clear h_f6a h_g6a h_x6a h_y6a hn_n hK6a hk7
  have h_f7a := h_f7.alloc (.cells #[.int .i64 0, .int .i64 1] 23)
  have h_g7a := h_g7.alloc (.cells #[.int .i64 0, .int .i64 1] 23)
  have h_x7a := h_x7.alloc (.cells #[.int .i64 0, .int .i64 1] 23)
  have h_y7a := h_y7.alloc (.cells #[.int .i64 0, .int .i64 1] 23)
  have h_n7a := h_n7.alloc (.cells #[.int .i64 0, .int .i64 1] 23)
  have hn_z := Box2.new (w := w7) (p := w7.heap.size) (n := 0) (d := 1) (t := 23) rfl
  have hK7a := hK7.alloc (.cells #[.int .i64 0, .int .i64 1] 23)
  clear h_f7 h_g7 h_x7 h_y7 h_n7 hK7
  obtain ⟨lt_f, c0_f, c1_f, f0_f, f1_f⟩ := id h_f7a
  obtain ⟨lt_g, c0_g, c1_g, f0_g, f1_g⟩ := id h_g7a
  go_wp2_with fail
  refine (addq _ _ _ _ (q fn fd) (q gn gd) S _ OF.out OG.out rfl rfl ES.out OS.out).mono ?_
  rintro e w8 ⟨rfl, hk8⟩
  clear lt_f c0_f c1_f f0_f f1_f lt_g c0_g c1_g f0_g f1_g
  have h_f8 := h_f7a.later hk8
  have h_g8 := h_g7a.later hk8
  have h_x8 := h_x7a.later hk8
  have h_y8 := h_y7a.later hk8
  have h_n8 := h_n7a.later hk8
  have h_z8 := hn_z.later hk8
  have hK8 := hK7a.trans hk8
  clear h_f7a h_g7a h_x7a h_y7a h_n7a hn_z hK7a hk8
  have h_f8a := h_f8.alloc (.cells #[.int .i64 (rn S), .int .i64 (rd S)] 23)
  have h_g8a := h_g8.alloc (.cells #[.int .i64 (rn S), .int .i64 (rd S)] 23)
  have h_x8a := h_x8.alloc (.cells #[.int .i64 (rn S), .int .i64 (rd S)] 23)
  have h_y8a := h_y8.alloc (.cells #[.int .i64 (rn S), .int .i64 (rd S)] 23)
  have h_n8a := h_n8.alloc (.cells #[.int .i64 (rn S), .int .i64 (rd S)] 23)
  have h_z8a := h_z8.alloc (.cells #[.int .i64 (rn S), .int .i64 (rd S)] 23)
  have hn_s := Box2.new (w := w8) (p := w8.heap.size) (n := (rn S)) (d := (rd S)) (t := 23) rfl
  have hK8a := hK8.alloc (.cells #[.int .i64 (rn S), .int .i64 (rd S)] 23)
  clear h_f8 h_g8 h_x8 h_y8 h_n8 h_z8 hK8
  obtain ⟨lt_s, c0_s, c1_s, f0_s, f1_s⟩ := id hn_s
  go_wp2_with fail
  refine (mulq _ _ _ _ S (q 1 2) M _ OS.out (by decide) (q_r S) rfl EM.out OM.out).mono ?_
  rintro e w9 ⟨rfl, hk9⟩
  clear lt_s c0_s c1_s f0_s f1_s
  have h_f9 := h_f8a.later hk9
  have h_g9 := h_g8a.later hk9
  have h_x9 := h_x8a.later hk9
  have h_y9 := h_y8a.later hk9
  have h_n9 := h_n8a.later hk9
  have h_z9 := h_z8a.later hk9
  have h_s9 := hn_s.later hk9
  have hK9 := hK8a.trans hk9
  clear h_f8a h_g8a h_x8a h_y8a h_n8a h_z8a hn_s hK8a hk9
  have h_f9a := h_f9.alloc (.cells #[.int .i64 (rn M), .int .i64 (rd M)] 23)
  have h_g9a := h_g9.alloc (.cells #[.int .i64 (rn M), .int .i64 (rd M)] 23)
  have h_x9a := h_x9.alloc (.cells #[.int .i64 (rn M), .int .i64 (rd M)] 23)
  have h_y9a := h_y9.alloc (.cells #[.int .i64 (rn M), .int .i64 (rd M)] 23)
  have h_n9a := h_n9.alloc (.cells #[.int .i64 (rn M), .int .i64 (rd M)] 23)
  have h_z9a := h_z9.alloc (.cells #[.int .i64 (rn M), .int .i64 (rd M)] 23)
  have h_s9a := h_s9.alloc (.cells #[.int .i64 (rn M), .int .i64 (rd M)] 23)
  have hn_m := Box2.new (w := w9) (p := w9.heap.size) (n := (rn M)) (d := (rd M)) (t := 23) rfl
  have hK9a := hK9.alloc (.cells #[.int .i64 (rn M), .int .i64 (rd M)] 23)
  clear h_f9 h_g9 h_x9 h_y9 h_n9 h_z9 h_s9 hK9
  obtain ⟨lt_f, c0_f, c1_f, f0_f, f1_f⟩ := id h_f9a
  obtain ⟨lt_g, c0_g, c1_g, f0_g, f1_g⟩ := id h_g9a
  go_wp2_with fail
  refine (cmp_yes _ _ _ _ _ OF.out OG.out).mono ?_
  rintro e w10 ⟨rfl, hk10⟩
  clear lt_f c0_f c1_f f0_f f1_f lt_g c0_g c1_g f0_g f1_g
  have h_f10 := h_f9a.later hk10
  have h_g10 := h_g9a.later hk10
  have h_x10 := h_x9a.later hk10
  have h_y10 := h_y9a.later hk10
  have h_n10 := h_n9a.later hk10
  have h_z10 := h_z9a.later hk10
  have h_s10 := h_s9a.later hk10
  have h_m10 := hn_m.later hk10
  have hK10 := hK9a.trans hk10
  clear h_f9a h_g9a h_x9a h_y9a h_n9a h_z9a h_s9a hn_m hK9a hk10
  obtain ⟨lt_f, c0_f, c1_f, f0_f, f1_f⟩ := id h_f10
  obtain ⟨lt_m, c0_m, c1_m, f0_m, f1_m⟩ := id h_m10
  go_wp2_with fail
  refine (cmp_yes _ _ _ _ _ OF.out OM.out).mono ?_
  rintro e w11 ⟨rfl, hk11⟩
  rw [C2.out]
  clear lt_f c0_f c1_f f0_f f1_f lt_m c0_m c1_m f0_m f1_m
  have h_f11 := h_f10.later hk11
  have h_g11 := h_g10.later hk11
  have h_x11 := h_x10.later hk11
  have h_y11 := h_y10.later hk11
  have h_n11 := h_n10.later hk11
  have h_z11 := h_z10.later hk11
  have h_s11 := h_s10.later hk11
  have h_m11 := h_m10.later hk11
  have hK11 := hK10.trans hk11
  clear h_f10 h_g10 h_x10 h_y10 h_n10 h_z10 h_s10 h_m10 hK10 hk11
  obtain ⟨lt_g, c0_g, c1_g, f0_g, f1_g⟩ := id h_g11
  obtain ⟨lt_m, c0_m, c1_m, f0_m, f1_m⟩ := id h_m11
  go_wp2_with fail
  refine (cmp_yes _ _ _ _ _ OM.out OG.out).mono ?_
  rintro e w12 ⟨rfl, hk12⟩
  rw [C3.out]
  clear lt_g c0_g c1_g f0_g f1_g lt_m c0_m c1_m f0_m f1_m
  have h_x12 := h_x11.later hk12
  have h_y12 := h_y11.later hk12
  have h_n12 := h_n11.later hk12
  have h_z12 := h_z11.later hk12
  have hK12 := hK11.trans hk12
  clear h_f11 h_g11 h_x11 h_y11 h_n11 h_z11 h_s11 h_m11 hK11 hk12
  generalize cmpV (fn * gd) (gn * fd) = C at *
  generalize rn (q fn fd) = fN at *
  generalize rd (q fn fd) = fD at *
  clear OF OG ON ZE OS OM C2 C3 ES EM
  go_wp2_with fail
  have hz : ∀ j : Nat, j < 9 → (w12.alloc (.cells #[.int .i64 0, .int .i64 0, .int .i64 0, .int .i64 0, .int .i64 0, .int .i64 0, .int .i64 0, .int .i64 0, .int .i64 0] 24)).cell? ⟨w12.heap.size, j, none⟩ = some (.int .i64 0) := fun j hj => zeros (List.replicate 9 (.int .i64 0)) (fun v hv => List.eq_of_mem_replicate hv) _ _ j (by simpa using hj)
  have HZ := Lib.hid hz
  clear hz
  have h_x12z := h_x12.alloc (.cells #[.int .i64 0, .int .i64 0, .int .i64 0, .int .i64 0, .int .i64 0, .int .i64 0, .int .i64 0, .int .i64 0, .int .i64 0] 24)
  clear h_x12
  have h_y12z := h_y12.alloc (.cells #[.int .i64 0, .int .i64 0, .int .i64 0, .int .i64 0, .int .i64 0, .int .i64 0, .int .i64 0, .int .i64 0, .int .i64 0] 24)
  clear h_y12
  have h_n12z := h_n12.alloc (.cells #[.int .i64 0, .int .i64 0, .int .i64 0, .int .i64 0, .int .i64 0, .int .i64 0, .int .i64 0, .int .i64 0, .int .i64 0] 24)
  clear h_n12
  have h_z12z := h_z12.alloc (.cells #[.int .i64 0, .int .i64 0, .int .i64 0, .int .i64 0, .int .i64 0, .int .i64 0, .int .i64 0, .int .i64 0, .int .i64 0] 24)
  clear h_z12
  have hK12z := hK12.alloc (.cells #[.int .i64 0, .int .i64 0, .int .i64 0, .int .i64 0, .int .i64 0, .int .i64 0, .int .i64 0, .int .i64 0, .int .i64 0] 24)
  clear hK12
  have hps : w12.heap.size < (w12.alloc (.cells #[.int .i64 0, .int .i64 0, .int .i64 0, .int .i64 0, .int .i64 0, .int .i64 0, .int .i64 0, .int .i64 0, .int .i64 0] 24)).heap.size := by simp
  simp only [World.size_alloc] at HZ hps
  generalize w12.alloc (.cells #[.int .i64 0, .int .i64 0, .int .i64 0, .int .i64 0, .int .i64 0, .int .i64 0, .int .i64 0, .int .i64 0, .int .i64 0] 24) = W9 at *
  generalize w12.heap.size + 1 = pz at *
  go_loop [108] (fun i => ∃ k : Nat, k ≤ 9 ∧ i = .int .i64 k) (fun i => (9 - intOf i).toNat)
  case atStart => exact ⟨0, by omega, rfl⟩
  case round =>
    obtain ⟨k, hk, rfl⟩ := hrel
    by_cases hlt : k < 9
    · have hc := HZ.out k hlt
      clear HZ
      go_wp2
      go_round
      case rel => exact ⟨k + 1, by omega, by go_num⟩
      case measure => simp [intOf]; omega
    · obtain rfl : k = 9 := by omega
      clear HZ hlt
      obtain ⟨lt_x, c0_x, c1_x, f0_x, f1_x⟩ := id h_x12z
      obtain ⟨lt_y, c0_y, c1_y, f0_y, f1_y⟩ := id h_y12z
      obtain ⟨lt_n, c0_n, c1_n, f0_n, f1_n⟩ := id h_n12z
      obtain ⟨lt_z, c0_z, c1_z, f0_z, f1_z⟩ := id h_z12z
      go_wp2
      go_ret
      exact ⟨rfl, hK12z⟩

end Go.Proofs.Ytkbbofpjelgiiaa
