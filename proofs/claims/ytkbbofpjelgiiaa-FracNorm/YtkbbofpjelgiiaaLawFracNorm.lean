/-
  The law FracNorm returns true: in lowest terms it is the same number, and once more the same; two are the same number just if their lowest terms are. No condition.
-/
import Derived.Test.YtkbbofpjelgiiaaFWalkD
import Derived.Test.YtkbbofpjelgiiaaFMathB
namespace Go.Proofs.Ytkbbofpjelgiiaa
open Go.RowKit

theorem low_64 : lN (-6) 4 = -3 ∧ lD (-6) 4 = 2 := by
  unfold lN lD; rw [q_num _ _ (by omega), q_den _ _ (by omega)]; decide
theorem low_cmp (n d : Int) (h : 1 ≤ d) : n * lD n d = lN n d * d := by
  have e := (q_eq_iff n d (lN n d) (lD n d) h (lD_pos n d)).1 (q_low n d).symm
  exact e
theorem low_dvd (n d : Int) (h : 1 ≤ d) : d % lD n d = 0 := by
  have e := lD_eq n d h
  exact Int.emod_eq_zero_of_dvd ⟨_, e⟩
theorem cmp_same (a b c d : Int) (hb : 1 ≤ b) (hd : 1 ≤ d) : (cmpV (a * d) (c * b) == 0) = ((lN a b == lN c d) && (lD a b == lD c d)) := by
  rw [Bool.eq_iff_iff, Bool.and_eq_true, beq_iff_eq, beq_iff_eq, beq_iff_eq, low_inj, q_eq_iff a b c d hb hd]
  unfold cmpV
  constructor
  · intro h
    by_cases u : a * d < c * b
    · rw [if_pos u] at h; omega
    · rw [if_neg u] at h
      by_cases v : c * b < a * d
      · rw [if_pos v] at h; omega
      · omega
  · intro h; rw [if_neg (by omega), if_neg (by omega)]

set_option maxRecDepth 100000 in
set_option maxHeartbeats 4000000 in
theorem fracNorm_walk (a b c d : Int) (w : World) :
    Calls Try.prog 6 #[fr2 a b, fr2 c d] w fun e w' => e = .returned (.bool true) ∧ Kept w w' := by
  have H1 := Lib.hid low_64
  go_enter Try.func6, Try.ntmps6
  go_wp2_with fail
  obtain ⟨hA, hB, hK⟩ := two_new w a b c d 23
  generalize ((w.alloc (.cells #[.int .i64 a, .int .i64 b] 23)).alloc (.cells #[.int .i64 c, .int .i64 d] 23)) = W at *
  refine (norm_yes _ _ _ (by decide)).mono ?_
  rintro e w1 ⟨rfl, hk1⟩
  rw [H1.out.1, H1.out.2]
  have h_f1 := hA.later hk1
  have h_g1 := hB.later hk1
  have hK1 := hK.trans hk1
  clear hA hB hK hk1
  have h_f1a := h_f1.alloc (.cells #[.int .i64 (-3), .int .i64 2] 23)
  have h_g1a := h_g1.alloc (.cells #[.int .i64 (-3), .int .i64 2] 23)
  have hn_x0 := Box2.new (w := w1) (n := (-3)) (d := 2) (t := 23) rfl
  have hK1a := hK1.alloc (.cells #[.int .i64 (-3), .int .i64 2] 23)
  clear h_f1 h_g1 hK1
  obtain ⟨lt_f, c0_f, c1_f, f0_f, f1_f⟩ := id h_f1a
  go_wp2_with fail
  refine (norm_any _ _ _).mono ?_
  rintro e w2 ⟨rfl, hk2⟩
  clear lt_f c0_f c1_f f0_f f1_f
  have h_f2 := h_f1a.later hk2
  have h_g2 := h_g1a.later hk2
  have hK2 := hK1a.trans hk2
  clear h_f1a h_g1a hn_x0 hK1a hk2
  cases ho : okB a b
  · have hn := chk_ne ho
    clear ho H1
    rw [if_neg (by decide), if_neg (by decide)]
    go_wp2
    go_ret
    exact ⟨rfl, hK2.alloc _⟩
  · obtain ⟨h1, h2, h3, h4⟩ := (ok_iff a b).1 ho
    rw [if_pos rfl, if_pos rfl, chk_ok ho]
    have hl := low_ok ho
    have LL := Lib.hid (low_low a b)
    have LC := Lib.hid (low_cmp a b h3)
    have LV := Lib.hid (low_dvd a b h3)
    have l1 := lD_pos a b
    have l2 := lD_bd a b h3
    have OA := Lib.hid ho
    have OL := Lib.hid hl
    clear ho hl H1
    have h_f2a := h_f2.alloc (.cells #[.int .i64 (lN a b), .int .i64 (lD a b)] 23)
    have h_g2a := h_g2.alloc (.cells #[.int .i64 (lN a b), .int .i64 (lD a b)] 23)
    have hn_x := Box2.new (w := w2) (n := (lN a b)) (d := (lD a b)) (t := 23) rfl
    have hK2a := hK2.alloc (.cells #[.int .i64 (lN a b), .int .i64 (lD a b)] 23)
    clear h_f2 h_g2 hK2
    obtain ⟨lt_x, c0_x, c1_x, f0_x, f1_x⟩ := id hn_x
    go_wp2_with fail
    refine (norm_yes _ _ _ OL.out).mono ?_
    rintro e w3 ⟨rfl, hk3⟩
    rw [LL.out.1, LL.out.2]
    clear lt_x c0_x c1_x f0_x f1_x
    have h_f3 := h_f2a.later hk3
    have h_g3 := h_g2a.later hk3
    have h_x3 := hn_x.later hk3
    have hK3 := hK2a.trans hk3
    clear h_f2a h_g2a hn_x hK2a hk3
    have h_f3a := h_f3.alloc (.cells #[.int .i64 (lN a b), .int .i64 (lD a b)] 23)
    have h_g3a := h_g3.alloc (.cells #[.int .i64 (lN a b), .int .i64 (lD a b)] 23)
    have h_x3a := h_x3.alloc (.cells #[.int .i64 (lN a b), .int .i64 (lD a b)] 23)
    have hn_y := Box2.new (w := w3) (n := (lN a b)) (d := (lD a b)) (t := 23) rfl
    have hK3a := hK3.alloc (.cells #[.int .i64 (lN a b), .int .i64 (lD a b)] 23)
    clear h_f3 h_g3 h_x3 hK3
    obtain ⟨lt_f, c0_f, c1_f, f0_f, f1_f⟩ := id h_f3a
    obtain ⟨lt_x, c0_x, c1_x, f0_x, f1_x⟩ := id h_x3a
    go_wp2_with fail
    refine (cmp_yes _ _ _ _ _ OA.out OL.out).mono ?_
    rintro e w4 ⟨rfl, hk4⟩
    rw [LC.out, cmpV_eq]
    clear lt_f c0_f c1_f f0_f f1_f lt_x c0_x c1_x f0_x f1_x
    have h_f4 := h_f3a.later hk4
    have h_g4 := h_g3a.later hk4
    have h_x4 := h_x3a.later hk4
    have h_y4 := hn_y.later hk4
    have hK4 := hK3a.trans hk4
    clear h_f3a h_g3a h_x3a hn_y hK3a hk4
    have mz : b % lD a b = 0 := LV.out
    have MZ : (b % lD a b != 0) = false := by rw [mz]; rfl
    clear mz
    obtain ⟨lt_g, c0_g, c1_g, f0_g, f1_g⟩ := id h_g4
    obtain ⟨lt_f, c0_f, c1_f, f0_f, f1_f⟩ := id h_f4
    obtain ⟨lt_x, c0_x, c1_x, f0_x, f1_x⟩ := id h_x4
    obtain ⟨lt_y, c0_y, c1_y, f0_y, f1_y⟩ := id h_y4
    go_wp2_with fail
    refine (norm_any _ _ _).mono ?_
    rintro e w5 ⟨rfl, hk5⟩
    clear lt_g c0_g c1_g f0_g f1_g lt_f c0_f c1_f f0_f f1_f lt_x c0_x c1_x f0_x f1_x lt_y c0_y c1_y f0_y f1_y
    have h_f5 := h_f4.later hk5
    have h_g5 := h_g4.later hk5
    have h_x5 := h_x4.later hk5
    have hK5 := hK4.trans hk5
    clear h_f4 h_g4 h_x4 h_y4 hK4 hk5
    cases hp : okB c d
    · have hn := chk_ne hp
      clear hp
      go_wp2
      go_ret
      exact ⟨rfl, hK5.alloc _⟩
    · obtain ⟨h5, h6, h7, h8⟩ := (ok_iff c d).1 hp
      rw [if_pos rfl, if_pos rfl, chk_ok hp]
      have OC := Lib.hid hp
      have CS := Lib.hid (cmp_same a b c d h3 h7)
      clear hp
      have h_f5a := h_f5.alloc (.cells #[.int .i64 (lN c d), .int .i64 (lD c d)] 23)
      have h_g5a := h_g5.alloc (.cells #[.int .i64 (lN c d), .int .i64 (lD c d)] 23)
      have h_x5a := h_x5.alloc (.cells #[.int .i64 (lN c d), .int .i64 (lD c d)] 23)
      have hn_z := Box2.new (w := w5) (n := (lN c d)) (d := (lD c d)) (t := 23) rfl
      have hK5a := hK5.alloc (.cells #[.int .i64 (lN c d), .int .i64 (lD c d)] 23)
      clear h_f5 h_g5 h_x5 hK5
      obtain ⟨lt_f, c0_f, c1_f, f0_f, f1_f⟩ := id h_f5a
      obtain ⟨lt_g, c0_g, c1_g, f0_g, f1_g⟩ := id h_g5a
      go_wp2_with fail
      refine (cmp_yes _ _ _ _ _ OA.out OC.out).mono ?_
      rintro e w6 ⟨rfl, hk6⟩
      clear lt_f c0_f c1_f f0_f f1_f lt_g c0_g c1_g f0_g f1_g
      have h_x6 := h_x5a.later hk6
      have h_z6 := hn_z.later hk6
      have hK6 := hK5a.trans hk6
      clear h_f5a h_g5a h_x5a hn_z hK5a hk6
      obtain ⟨lt_x, c0_x, c1_x, f0_x, f1_x⟩ := id h_x6
      obtain ⟨lt_z, c0_z, c1_z, f0_z, f1_z⟩ := id h_z6
      generalize cmpV (a * d) (c * b) = X at *
      generalize lN c d = zn at *
      generalize lD c d = zd at *
      have cs := CS.out
      cases e1 : (lN a b == zn)
      · have e3 : (X == 0) = false := by rw [cs, e1]; rfl
        clear cs CS
        go_wp2
        go_ret
        exact ⟨rfl, hK6⟩
      · cases e2 : (lD a b == zd)
        · have e3 : (X == 0) = false := by rw [cs, e1, e2]; rfl
          clear cs CS
          go_wp2
          go_ret
          exact ⟨rfl, hK6⟩
        · have e3 : (X == 0) = true := by rw [cs, e1, e2]; rfl
          clear cs CS
          go_wp2
          go_ret
          exact ⟨rfl, hK6⟩

end Go.Proofs.Ytkbbofpjelgiiaa
