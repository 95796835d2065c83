/-
  What package money and what it calls of package frac return: Check, floor, Round, quarters, quotient, Share, With, Within. No condition but those that each theorem names.
-/
import Derived.Test.YtjfflnkocajkeaaDoorMMath
import Derived.OwnWalk
namespace Go.Proofs.YtjfflnkocajkeaaDoor
open Go.RowKit

theorem cmM_lt {x y : Int} (h : x < y) : cmM x y = -1 := by unfold cmM; rw [if_pos h]
theorem cmM_gt {x y : Int} (h : y < x) : cmM x y = 1 := by unfold cmM; rw [if_neg (by omega), if_pos h]
theorem cmM_eq (x : Int) : cmM x x = 0 := by unfold cmM; rw [if_neg (by omega), if_neg (by omega)]
theorem cmM_bd (x y : Int) : -1 ≤ cmM x y ∧ cmM x y ≤ 1 := by unfold cmM; split <;> (try split) <;> omega

/-- A fraction as the program holds it. -/
abbrev fr2 (n d : Int) : Value := .agg #[.int .i64 n, .int .i64 d]
/-- Two numbers lie at a place, and may be written there. -/
structure Box2 (w : World) (p : Nat) (n d : Int) : Prop where
  lt : p < w.heap.size
  c0 : w.cell? ⟨p, 0, none⟩ = some (.int .i64 n)
  c1 : w.cell? ⟨p, 1, none⟩ = some (.int .i64 d)
  f0 : w.frozen? ⟨p, 0, none⟩ = false
  f1 : w.frozen? ⟨p, 1, none⟩ = false
theorem Box2.later {w w' : World} {p : Nat} {n d : Int} (h : Box2 w p n d) (k : Kept w w') : Box2 w' p n d :=
  ⟨Nat.lt_of_lt_of_le h.lt k.le, (k.rd.1 _ _ h.lt).trans h.c0, (k.rd.1 _ _ h.lt).trans h.c1, (k.rd.2 _ _ h.lt).trans h.f0, (k.rd.2 _ _ h.lt).trans h.f1⟩
theorem Box2.new {w : World} {p : Nat} {n d : Int} {t : TypeId} (hp : w.heap.size = p) : Box2 (w.alloc (.cells #[.int .i64 n, .int .i64 d] t)) p n d := by
  subst hp; constructor <;> simp
theorem Box2.alloc {w : World} {p : Nat} {n d : Int} (h : Box2 w p n d) (o : Obj) : Box2 (w.alloc o) p n d := h.later ((Kept.refl w).alloc o)
theorem Box2.drewN {w : World} {p : Nat} {n d : Int} (h : Box2 w p n d) (m : Nat) : Box2 (w.drewN m) p n d := ⟨h.lt, h.c0, h.c1, h.f0, h.f1⟩
theorem Box2.drew {w : World} {p : Nat} {n d : Int} (h : Box2 w p n d) : Box2 w.drew p n d := ⟨h.lt, h.c0, h.c1, h.f0, h.f1⟩
set_option maxHeartbeats 400000 in
theorem check_anyM (n d : Int) (w : World) :
    Calls Tryd.prog 77 #[fr2 n d] w fun e w' => e = .returned (.int .i64 (chk n d)) ∧ Kept w w' := by
  by_cases hd : d = 0
  · subst hd
    go_enter Tryd.func77, Tryd.ntmps77
    go_wp2
    go_ret
    exact ⟨ret_int (by simp [chk]), (Kept.refl w).alloc _⟩
  · have hb : (d == 0) = false := by simp [hd]
    cases ho : okB n d
    · have e : chk n d = 1 := by unfold chk; rw [if_neg hd, ho]; simp
      have ho' : ¬ (-1000000000000 ≤ n ∧ n ≤ 1000000000000 ∧ 1 ≤ d ∧ d ≤ 1000000) := by rw [← ok_iff, ho]; simp
      rw [e]
      clear e ho
      rcases (show n < -1000000000000 ∨ (-1000000000000 ≤ n ∧ 1000000000000 < n) ∨ (-1000000000000 ≤ n ∧ n ≤ 1000000000000 ∧ d < 1) ∨ (-1000000000000 ≤ n ∧ n ≤ 1000000000000 ∧ 1 ≤ d ∧ 1000000 < d) by omega) with h | ⟨h1, h2⟩ | ⟨h1, h2, h3⟩ | ⟨h1, h2, h3, h4⟩
      all_goals
        clear ho' hd
        go_enter Tryd.func77, Tryd.ntmps77
        go_wp2
        go_ret
        exact ⟨rfl, (Kept.refl w).alloc _⟩
    · rw [chk_ok ho]
      obtain ⟨h1, h2, h3, h4⟩ := (ok_iff n d).1 ho
      clear ho hd
      go_enter Tryd.func77, Tryd.ntmps77
      go_wp2
      go_ret
      exact ⟨rfl, (Kept.refl w).alloc _⟩

set_option maxHeartbeats 400000 in
theorem compareM (x y : Int) (w : World) :
    Calls Tryd.prog 79 #[.int .i64 x, .int .i64 y] w fun e w' => e = .returned (.int .i64 (cmM x y)) ∧ w = w' := by
  rcases (show x < y ∨ x = y ∨ y < x by omega) with h | h | h
  · rw [cmM_lt h]
    go_enter Tryd.func79, Tryd.ntmps79
    go_wp2
    go_ret
    exact ⟨rfl, rfl⟩
  · subst h
    rw [cmM_eq]
    go_enter Tryd.func79, Tryd.ntmps79
    go_wp2
    go_ret
    exact ⟨rfl, rfl⟩
  · rw [cmM_gt h]
    go_enter Tryd.func79, Tryd.ntmps79
    go_wp2
    go_ret
    exact ⟨rfl, rfl⟩

theorem ret22 {a b c d : Int} (h : a = b) (k : c = d) : Ending.returned (.tuple #[.int .i64 a, .int .i64 c]) = .returned (.tuple #[.int .i64 b, .int .i64 d]) := by rw [h, k]

set_option maxHeartbeats 1000000 in
theorem floor_any (n d : Int) (w : World) (h1 : -1000000000000 ≤ n) (h2 : n ≤ 1000000000000) (h3 : 1 ≤ d) (h4 : d ≤ 1000000) :
    Calls Tryd.prog 78 #[fr2 n d] w fun e w' => e = .returned (.tuple #[.int .i64 (n / d), .int .i64 (n % d)]) ∧ Kept w w' := by
  have dz : (d == 0) = false := by rw [beq_eq_false_iff_ne]; omega
  have tb := tdiv_bd n d _ h3 h1 h2
  by_cases hr : n.tmod d < 0
  · have T := Lib.hid (tdiv_neg n d h3 hr)
    go_enter Tryd.func78, Tryd.ntmps78
    go_wp2
    go_quiet (fail)
    go_wp2
    go_quiet (fail)
    go_wp2
    go_ret2
    exact ⟨ret22 T.out.1 T.out.2, (((Kept.refl w).alloc _).drewN _).drewN _⟩
  · have hr' : 0 ≤ n.tmod d := by omega
    have T := Lib.hid (tdiv_pos n d h3 hr')
    clear hr
    go_enter Tryd.func78, Tryd.ntmps78
    go_wp2
    go_quiet (fail)
    go_wp2
    go_ret2
    exact ⟨ret22 T.out.1 T.out.2, ((Kept.refl w).alloc _).drewN _⟩

theorem odd_tmod (k : Int) : ((k.tmod 2 != 0) = true ↔ k % 2 = 1) := by
  rw [bne_iff_ne]
  by_cases c : 0 ≤ k
  · rw [Int.tmod_eq_emod_of_nonneg c]; omega
  · have e : k.tmod 2 = -((-k) % 2) := by
      rw [← Int.tmod_eq_emod_of_nonneg (show 0 ≤ -k by omega), Int.neg_tmod, Int.neg_neg]
    rw [e]; omega
theorem even_tmod (k : Int) : ((k.tmod 2 != 0) = false ↔ ¬ k % 2 = 1) := by
  rw [← odd_tmod]; simp

set_option maxHeartbeats 1000000 in
theorem round_bad (n d way : Int) (w : World) (h : okB n d = true) (hw : way < 0 ∨ 3 < way) :
    Calls Tryd.prog 67 #[fr2 n d, .int .i64 way] w fun e w' => e = .returned (.tuple #[.int .i64 0, .int .i64 1]) ∧ Kept w w' := by
  have H := Lib.hid (chk_ok h)
  obtain ⟨h1, h2, h3, h4⟩ := (ok_iff n d).1 h
  have hb := emod_bd n d (by omega)
  have db := div_bd n d _ h3 h1 h2
  have w0 : (way == 0) = false := by rw [beq_eq_false_iff_ne]; omega
  have w1' : (way == 1) = false := by rw [beq_eq_false_iff_ne]; omega
  have w2' : (way == 2) = false := by rw [beq_eq_false_iff_ne]; omega
  have w3' : (way == 3) = false := by rw [beq_eq_false_iff_ne]; omega
  clear h hw
  go_enter Tryd.func67, Tryd.ntmps67
  go_wp2_with fail
  refine (check_anyM _ _ _).mono ?_
  rintro e w1 ⟨rfl, hk1⟩
  rw [H.out]
  have hA := (Box2.new (w := w) (n := n) (d := d) (t := 98) rfl).later hk1
  have hk := ((Kept.refl w).alloc _).trans hk1
  clear hk1
  obtain ⟨lt, c0, c1, f0, f1⟩ := id hA
  go_wp2_with fail
  refine (floor_any _ _ _ h1 h2 h3 h4).mono ?_
  rintro e w2 ⟨rfl, hk2⟩
  clear lt c0 c1 f0 f1
  obtain ⟨lt, c0, c1, f0, f1⟩ := hA.later hk2
  have hk3 := hk.trans hk2
  clear hA hk hk2
  go_wp2_with fail
  refine (compareM _ _ _).mono ?_
  rintro e w3 ⟨rfl, rfl⟩
  go_wp2
  go_ret2
  exact ⟨rfl, hk3⟩

set_option maxHeartbeats 4000000 in
theorem round_yes (n d way : Int) (w : World) (h : okB n d = true) (hw0 : 0 ≤ way) (hw3 : way ≤ 3) :
    Calls Tryd.prog 67 #[fr2 n d, .int .i64 way] w fun e w' => e = .returned (.tuple #[.int .i64 (rnd n d way), .int .i64 0]) ∧ Kept w w' := by
  have H := Lib.hid (chk_ok h)
  obtain ⟨h1, h2, h3, h4⟩ := (ok_iff n d).1 h
  have hb := emod_bd n d (by omega)
  have db := div_bd n d _ h3 h1 h2
  clear h
  go_enter Tryd.func67, Tryd.ntmps67
  go_wp2_with fail
  refine (check_anyM _ _ _).mono ?_
  rintro e w1 ⟨rfl, hk1⟩
  rw [H.out]
  have hA := (Box2.new (w := w) (n := n) (d := d) (t := 98) rfl).later hk1
  have hk := ((Kept.refl w).alloc _).trans hk1
  clear hk1
  obtain ⟨lt, c0, c1, f0, f1⟩ := id hA
  go_wp2_with fail
  refine (floor_any _ _ _ h1 h2 h3 h4).mono ?_
  rintro e w2 ⟨rfl, hk2⟩
  clear lt c0 c1 f0 f1
  obtain ⟨lt, c0, c1, f0, f1⟩ := hA.later hk2
  have hk3 := hk.trans hk2
  clear hA hk hk2
  go_wp2_with fail
  refine (compareM _ _ _).mono ?_
  rintro e w3 ⟨rfl, rfl⟩
  rcases (show way = 0 ∨ way = 1 ∨ way = 2 ∨ way = 3 by omega) with rfl | rfl | rfl | rfl
  · go_wp2
    go_ret2
    exact ⟨ret22 (by simp [rnd, upB_0]) rfl, hk3⟩
  · by_cases hr : 0 < n % d
    · go_wp2
      go_ret2
      exact ⟨ret22 (by simp [rnd, upB_1, hr]) rfl, hk3⟩
    · have hr' : decide (0 < n % d) = false := by simpa using hr
      have HR := Lib.hid hr
      clear hr
      go_wp2
      go_ret2
      exact ⟨ret22 (by unfold rnd; rw [upB_1, decide_eq_false (Int.not_lt.2 HR.out)]; simp) rfl, hk3⟩
  · rcases (show d < 2 * (n % d) ∨ 2 * (n % d) < d ∨ 2 * (n % d) = d by omega) with hc | hc | hc
    · have E : rnd n d 2 = n / d + 1 := by unfold rnd; rw [upB_2, if_pos (by simp [hc])]
      rw [cmM_gt hc]
      have HE := Lib.hid E
      clear E hc
      go_wp2
      go_ret2
      exact ⟨ret22 HE.out.symm rfl, hk3⟩
    · have E : rnd n d 2 = n / d := by unfold rnd; rw [upB_2, if_neg (by simp; omega)]
      rw [cmM_lt hc]
      have HE := Lib.hid E
      clear E hc
      go_wp2
      go_ret2
      exact ⟨ret22 HE.out.symm rfl, hk3⟩
    · by_cases hn : 0 < n
      · have E : rnd n d 2 = n / d + 1 := by unfold rnd; rw [upB_2, if_pos (by simp [hc, hn])]
        rw [show cmM (2 * (n % d)) d = 0 by rw [hc, cmM_eq]]
        have HE := Lib.hid E
        clear E hc
        go_wp2
        go_ret2
        exact ⟨ret22 HE.out.symm rfl, hk3⟩
      · have E : rnd n d 2 = n / d := by unfold rnd; rw [upB_2, if_neg (by simp; omega)]
        rw [show cmM (2 * (n % d)) d = 0 by rw [hc, cmM_eq]]
        have hn' : decide (0 < n) = false := by simpa using hn
        have HE := Lib.hid E
        clear E hc hn
        go_wp2
        go_ret2
        exact ⟨ret22 HE.out.symm rfl, hk3⟩
  · rcases (show d < 2 * (n % d) ∨ 2 * (n % d) < d ∨ 2 * (n % d) = d by omega) with hc | hc | hc
    · have E : rnd n d 3 = n / d + 1 := by unfold rnd; rw [upB_3, if_pos (by simp [hc])]
      rw [cmM_gt hc]
      have HE := Lib.hid E
      clear E hc
      go_wp2
      go_ret2
      exact ⟨ret22 HE.out.symm rfl, hk3⟩
    · have E : rnd n d 3 = n / d := by unfold rnd; rw [upB_3, if_neg (by simp; omega)]
      rw [cmM_lt hc]
      have HE := Lib.hid E
      clear E hc
      go_wp2
      go_ret2
      exact ⟨ret22 HE.out.symm rfl, hk3⟩
    · by_cases hn : (n / d) % 2 = 1
      · have E : rnd n d 3 = n / d + 1 := by unfold rnd; rw [upB_3, if_pos (by simp [hc, hn])]
        rw [show cmM (2 * (n % d)) d = 0 by rw [hc, cmM_eq]]
        have hn' := (odd_tmod (n / d)).2 hn
        have HE := Lib.hid E
        clear E hc hn
        go_wp2
        go_ret2
        exact ⟨ret22 HE.out.symm rfl, hk3⟩
      · have E : rnd n d 3 = n / d := by unfold rnd; rw [upB_3, if_neg (by simp; omega)]
        rw [show cmM (2 * (n % d)) d = 0 by rw [hc, cmM_eq]]
        have hn' := (even_tmod (n / d)).2 hn
        have HE := Lib.hid E
        clear E hc hn
        go_wp2
        go_ret2
        exact ⟨ret22 HE.out.symm rfl, hk3⟩

def inB (x a b : Int) : Bool := decide (a ≤ x ∧ x ≤ b)
set_option maxHeartbeats 400000 in
theorem rwithin_any (x a b : Int) (w : World) :
    Calls Tryd.prog 26 #[.int .i64 x, .int .i64 a, .int .i64 b] w fun e w' => e = .returned (.bool (inB x a b)) ∧ w = w' := by
  have E := Lib.hid (show inB x a b = decide (a ≤ x ∧ x ≤ b) from rfl)
  generalize inB x a b = B at *
  by_cases h : a ≤ x
  · by_cases h2 : x ≤ b
    · go_enter Tryd.func26, Tryd.ntmps26
      go_wp2
      go_ret
      exact ⟨ret_bool (by rw [E.out]; simp [h, h2]), rfl⟩
    · have hb : decide (x ≤ b) = false := by simpa using h2
      have H := Lib.hid h2
      clear h2
      go_enter Tryd.func26, Tryd.ntmps26
      go_wp2
      go_ret
      exact ⟨ret_bool (by rw [E.out]; have := H.out; simp; omega), rfl⟩
  · have hb : decide (a ≤ x) = false := by simpa using h
    have H := Lib.hid h
    clear h
    go_enter Tryd.func26, Tryd.ntmps26
    go_wp2
    go_ret
    exact ⟨ret_bool (by rw [E.out]; have := H.out; simp; omega), rfl⟩
set_option maxHeartbeats 400000 in
theorem rmoney_any (x : Int) (w : World) :
    Calls Tryd.prog 51 #[.int .i64 x] w fun e w' => e = .returned (.bool (inB x (-1000000000000) 1000000000000)) ∧ w = w' := by
  go_enter Tryd.func51, Tryd.ntmps51
  go_wp2_with fail
  refine (rwithin_any _ _ _ _).mono ?_
  rintro e w1 ⟨rfl, rfl⟩
  go_wp2
  go_ret
  exact ⟨rfl, rfl⟩

theorem tmod2_bd (k : Int) : -1 ≤ k.tmod 2 ∧ k.tmod 2 ≤ 1 := by have := tmod2 k; omega
def wayB (way : Int) : Bool := decide (0 ≤ way ∧ way ≤ 3)
theorem wayB_iff (way : Int) : wayB way = true ↔ 0 ≤ way ∧ way ≤ 3 := by unfold wayB; exact decide_eq_true_iff
def rtB (r : Int) : Bool := decide (0 ≤ r ∧ r ≤ 1000000)
theorem rtB_iff (r : Int) : rtB r = true ↔ 0 ≤ r ∧ r ≤ 1000000 := by unfold rtB; exact decide_eq_true_iff
/-- What is asked of all three. -/
def okM (a r way : Int) : Bool := amB a && rtB r && wayB way
theorem okM_iff (a r way : Int) : okM a r way = true ↔ (-1000000000000 ≤ a ∧ a ≤ 1000000000000) ∧ (0 ≤ r ∧ r ≤ 1000000) ∧ (0 ≤ way ∧ way ≤ 3) := by
  unfold okM
  rw [Bool.and_eq_true, Bool.and_eq_true, am_iff, rtB_iff, wayB_iff, and_assoc]
theorem okM_no {a r way : Int} (h : okM a r way = false) : amB a = false ∨ (amB a = true ∧ rtB r = false) ∨ (amB a = true ∧ rtB r = true ∧ wayB way = false) := by
  unfold okM at h
  cases x : amB a <;> cases y : rtB r <;> cases z : wayB way <;> simp_all
theorem ar_bd {a r : Int} (a0 : -1000000000000 ≤ a) (a1 : a ≤ 1000000000000) (r0 : 0 ≤ r) (r1 : r ≤ 1000000) : -1000000000000000000 ≤ a * r ∧ a * r ≤ 1000000000000000000 := by
  have e : ((a * r).natAbs : Int) ≤ 1000000000000 * 1000000 := by
    rw [Int.natAbs_mul, Int.natCast_mul]
    exact Int.mul_le_mul (by omega) (by omega) (by omega) (by omega)
  omega
def shV (a r way : Int) : Int := rnd (a * r) 1000000 way
theorem shV_bd {a r way : Int} (h : okM a r way = true) : -1000000000000 ≤ shV a r way ∧ shV a r way ≤ 1000000000000 := by
  obtain ⟨⟨a0, a1⟩, ⟨r0, r1⟩, w0, w3⟩ := (okM_iff a r way).1 h
  have mb := ar_bd a0 a1 r0 r1
  unfold shV
  exact ⟨rnd_ge _ _ _ _ (by omega) (by omega) w0 w3, rnd_le _ _ _ _ (by omega) (by omega) w0 w3⟩
/-- The error of With. -/
def wiE (a r way : Int) : Int := if okM a r way = true then (if amB (a + shV a r way) = true then 0 else 2) else 1
def wi0 (a r way : Int) : Int := if wiE a r way = 0 then a + shV a r way else 0
def wi1 (a r way : Int) : Int := if wiE a r way = 0 then shV a r way else 0
theorem ret333 {a b c d e f : Int} (h : a = b) (k : c = d) (l : e = f) : Ending.returned (.tuple #[.int .i64 a, .int .i64 c, .int .i64 e]) = .returned (.tuple #[.int .i64 b, .int .i64 d, .int .i64 f]) := by rw [h, k, l]
def inV (a r way : Int) : Int := rnd (a * 1000000) (1000000 + r) way
theorem inV_bd {a r way : Int} (h : okM a r way = true) : -1000000000000 ≤ inV a r way ∧ inV a r way ≤ 1000000000000 := by
  obtain ⟨⟨a0, a1⟩, ⟨r0, r1⟩, w0, w3⟩ := (okM_iff a r way).1 h
  unfold inV
  exact ⟨rnd_ge _ _ _ _ (by omega) (by omega) w0 w3, rnd_le _ _ _ _ (by omega) (by omega) w0 w3⟩
end Go.Proofs.YtjfflnkocajkeaaDoor
