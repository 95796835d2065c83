/-
  What package earn's By returns. No condition but those that each theorem names.
-/
import Derived.Test.YtjfflnkocajkeaaDoorEMath
namespace Go.Proofs.YtjfflnkocajkeaaDoor
open Go.RowKit

set_option maxHeartbeats 400000 in
theorem eam_any (a : Int) (w : World) :
    Calls Tryd.prog 46 #[.int .i64 a] w fun e w' => e = .returned (.bool (amB a)) ∧ w = w' := by
  have E := Lib.hid (show amB a = decide (-1000000000000 ≤ a ∧ a ≤ 1000000000000) from rfl)
  generalize amB a = B at *
  by_cases h : -1000000000000 ≤ a
  · by_cases h2 : a ≤ 1000000000000
    · go_enter Tryd.func46, Tryd.ntmps46
      go_wp2
      go_ret
      exact ⟨ret_bool (by rw [E.out]; simp [h, h2]), rfl⟩
    · have hb : decide (a ≤ 1000000000000) = false := by simpa using h2
      have H := Lib.hid h2
      clear h2
      go_enter Tryd.func46, Tryd.ntmps46
      go_wp2
      go_ret
      exact ⟨ret_bool (by rw [E.out]; have := H.out; simp; omega), rfl⟩
  · have hb : decide (-1000000000000 ≤ a) = false := by simpa using h
    have H := Lib.hid h
    clear h
    go_enter Tryd.func46, Tryd.ntmps46
    go_wp2
    go_ret
    exact ⟨ret_bool (by rw [E.out]; have := H.out; simp; omega), rfl⟩
/-- A day of the calendar. -/
def dyBE (n : Int) : Bool := decide (0 ≤ n ∧ n ≤ 292193)
theorem dyB_iffE (n : Int) : dyBE n = true ↔ 0 ≤ n ∧ n ≤ 292193 := by unfold dyBE; exact decide_eq_true_iff
set_option maxHeartbeats 400000 in
theorem edy_any (a : Int) (w : World) :
    Calls Tryd.prog 47 #[.int .i64 a] w fun e w' => e = .returned (.bool (dyBE a)) ∧ w = w' := by
  have E := Lib.hid (show dyBE a = decide (0 ≤ a ∧ a ≤ 292193) from rfl)
  generalize dyBE a = B at *
  by_cases h : 0 ≤ a
  · by_cases h2 : a ≤ 292193
    · go_enter Tryd.func47, Tryd.ntmps47
      go_wp2
      go_ret
      exact ⟨ret_bool (by rw [E.out]; simp [h, h2]), rfl⟩
    · have hb : decide (a ≤ 292193) = false := by simpa using h2
      have H := Lib.hid h2
      clear h2
      go_enter Tryd.func47, Tryd.ntmps47
      go_wp2
      go_ret
      exact ⟨ret_bool (by rw [E.out]; have := H.out; simp; omega), rfl⟩
  · have hb : decide (0 ≤ a) = false := by simpa using h
    have H := Lib.hid h
    clear h
    go_enter Tryd.func47, Tryd.ntmps47
    go_wp2
    go_ret
    exact ⟨ret_bool (by rw [E.out]; have := H.out; simp; omega), rfl⟩
set_option maxHeartbeats 1000000 in
theorem near_any (n d : Int) (w : World) (h0 : -1000000000000000000 ≤ n) (h1 : n ≤ 1000000000000000000) (d0 : 1 ≤ d) (d1 : d ≤ 1000000) :
    Calls Tryd.prog 48 #[.int .i64 n, .int .i64 d] w fun e w' => e = .returned (.int .i64 (rnd n d 2)) ∧ Kept w w' := by
  have Q := Lib.hid (near_eq n d d0)
  have dz : (d == 0) = false := by rw [beq_eq_false_iff_ne]; omega
  have tb := tdiv_bd n d _ d0 h0 h1
  have xb := rnd_bd (n.tmod d) d 2
  have yb := div_bd (n.tmod d) d 1000000 d0 (by omega) (by omega)
  have RC := Lib.hid (fun w => round_yes (n.tmod d) d 2 w ((ok_iff _ _).2 (by omega)) (by omega) (by omega))
  generalize rnd n d 2 = R at *
  go_enter Tryd.func48, Tryd.ntmps48
  go_wp2_with fail
  refine (RC.out _).mono ?_
  rintro e w1 ⟨rfl, hK⟩
  generalize rnd (n.tmod d) d 2 = X at *
  go_wp2
  go_ret
  exact ⟨ret_int Q.out, hK⟩
/-- What is asked of By. -/
def okE (a f t d : Int) : Bool := amB a && dyBE f && dyBE t && dyBE d && decide (f ≤ t)
theorem okE_iff (a f t d : Int) : okE a f t d = true ↔ (-1000000000000 ≤ a ∧ a ≤ 1000000000000) ∧ (0 ≤ f ∧ f ≤ 292193) ∧ (0 ≤ t ∧ t ≤ 292193) ∧ (0 ≤ d ∧ d ≤ 292193) ∧ f ≤ t := by
  unfold okE
  rw [Bool.and_eq_true, Bool.and_eq_true, Bool.and_eq_true, Bool.and_eq_true, am_iff, dyB_iffE, dyB_iffE, dyB_iffE, decide_eq_true_iff, and_assoc, and_assoc, and_assoc]
theorem okE_no {a f t d : Int} (h : okE a f t d = false) : amB a = false ∨ (amB a = true ∧ dyBE f = false) ∨ (amB a = true ∧ dyBE f = true ∧ dyBE t = false) ∨ (amB a = true ∧ dyBE f = true ∧ dyBE t = true ∧ dyBE d = false) ∨ (amB a = true ∧ dyBE f = true ∧ dyBE t = true ∧ dyBE d = true ∧ t < f) := by
  unfold okE at h
  cases x : amB a <;> cases y : dyBE f <;> cases z : dyBE t <;> cases u : dyBE d <;> simp_all
theorem ap_bd {a p : Int} (a0 : -1000000000000 ≤ a) (a1 : a ≤ 1000000000000) (r0 : 0 ≤ p) (r1 : p ≤ 300000) : -1000000000000000000 ≤ a * p ∧ a * p ≤ 1000000000000000000 := by
  have e : ((a * p).natAbs : Int) ≤ 1000000000000 * 300000 := by
    rw [Int.natAbs_mul, Int.natCast_mul]
    exact Int.mul_le_mul (by omega) (by omega) (by omega) (by omega)
  omega
set_option maxHeartbeats 2000000 in
theorem eby_yes (a f t d : Int) (w : World) (h : okE a f t d = true) :
    Calls Tryd.prog 20 #[.int .i64 a, .int .i64 f, .int .i64 t, .int .i64 d] w fun e w' => e = .returned (.tuple #[.int .i64 (eaV a f t d), .int .i64 0]) ∧ Kept w w' := by
  obtain ⟨⟨a0, a1⟩, ⟨f0, f1⟩, ⟨t0, t1⟩, ⟨d0, d1⟩, ft⟩ := (okE_iff a f t d).1 h
  have A := Lib.hid ((am_iff a).2 ⟨a0, a1⟩)
  have F := Lib.hid ((dyB_iffE f).2 ⟨f0, f1⟩)
  have T := Lib.hid ((dyB_iffE t).2 ⟨t0, t1⟩)
  have D := Lib.hid ((dyB_iffE d).2 ⟨d0, d1⟩)
  have P := Lib.hid (show ∀ n p, a * p = n → 0 ≤ p → p ≤ 300000 → ∀ w, Calls Tryd.prog 48 #[.int .i64 n, .int .i64 (t - f + 1)] w fun e w' => e = .returned (.int .i64 (rnd (a * p) (t - f + 1) 2)) ∧ Kept w w' from fun n p e p0 p1 w => by subst e; exact near_any (a * p) (t - f + 1) w (ap_bd a0 a1 p0 p1).1 (ap_bd a0 a1 p0 p1).2 (by omega) (by omega))
  have B := Lib.hid (fun p (p0 : 0 ≤ p) (p1 : p ≤ 300000) => ap_bd a0 a1 p0 p1)
  have pb := pst_bd f t d ft
  have E := Lib.hid (show eaV a f t d = rnd (a * pst f t d) (t - f + 1) 2 from rfl)
  generalize eaV a f t d = V at *
  clear h
  rcases (show (d < t ∧ d - f + 1 < 0 ∧ pst f t d = 0) ∨ (d < t ∧ d - f + 1 = 0 ∧ pst f t d = 0) ∨ (d < t ∧ 0 < d - f + 1 ∧ pst f t d = d - f + 1) ∨ (d = t ∧ 0 < t - f + 1 ∧ pst f t d = t - f + 1) ∨ (t < d ∧ 0 < t - f + 1 ∧ pst f t d = t - f + 1) by unfold pst; omega) with ⟨c1, c2, c3⟩ | ⟨c1, c2, c3⟩ | ⟨c1, c2, c3⟩ | ⟨c1, c2, c3⟩ | ⟨c1, c2, c3⟩
  case' inl => have mx : max (min d t - f + 1) 0 = 0 := c3
  case' inr.inl => have mx : max (min d t - f + 1) 0 = 0 := c3
  case' inr.inr.inl => have mx : max (min d t - f + 1) 0 = d - f + 1 := c3
  case' inr.inr.inr.inl =>
    subst c1
    have mx : max (d - f + 1) 0 = d - f + 1 := by omega
  case' inr.inr.inr.inr => have mx : max (min d t - f + 1) 0 = t - f + 1 := c3
  all_goals
    rw [c3] at pb E
    have mb := B.out _ pb.1 (by omega)
    clear c3
    go_enter Tryd.func20, Tryd.ntmps20
    go_wp2_with fail
    refine (eam_any _ _).mono ?_
    rintro e w1 ⟨rfl, rfl⟩
    rw [A.out]
    go_wp2_with fail
    refine (edy_any _ _).mono ?_
    rintro e w1 ⟨rfl, rfl⟩
    rw [F.out]
    go_wp2_with fail
    refine (edy_any _ _).mono ?_
    rintro e w1 ⟨rfl, rfl⟩
    rw [T.out]
    go_wp2_with fail
    refine (edy_any _ _).mono ?_
    rintro e w1 ⟨rfl, rfl⟩
    rw [D.out]
    go_wp2_with fail
    refine (P.out _ _ (by first | exact Int.mul_zero a | exact rfl) pb.1 (by omega) _).mono ?_
    rintro e w1 ⟨rfl, hK⟩
    go_wp2
    go_ret2
    exact ⟨ret22 (by first | exact E.out.symm | rw [E.out, Int.mul_zero]) rfl, hK⟩
set_option maxHeartbeats 1000000 in
theorem eby_no (a f t d : Int) (w : World) (h : okE a f t d = false) :
    Calls Tryd.prog 20 #[.int .i64 a, .int .i64 f, .int .i64 t, .int .i64 d] w fun e w' => e = .returned (.tuple #[.int .i64 0, .int .i64 1]) ∧ Kept w w' := by
  rcases okE_no h with h1 | ⟨h1, h2⟩ | ⟨h1, h2, h3⟩ | ⟨h1, h2, h3, h4⟩ | ⟨h1, h2, h3, h4, h5⟩
  · have A := Lib.hid h1
    clear h h1
    go_enter Tryd.func20, Tryd.ntmps20
    go_wp2_with fail
    refine (eam_any _ _).mono ?_
    rintro e w1 ⟨rfl, rfl⟩
    rw [A.out]
    go_wp2
    go_ret2
    exact ⟨rfl, Kept.refl w⟩
  · have A := Lib.hid h1
    have F := Lib.hid h2
    clear h h1 h2
    go_enter Tryd.func20, Tryd.ntmps20
    go_wp2_with fail
    refine (eam_any _ _).mono ?_
    rintro e w1 ⟨rfl, rfl⟩
    rw [A.out]
    go_wp2_with fail
    refine (edy_any _ _).mono ?_
    rintro e w1 ⟨rfl, rfl⟩
    rw [F.out]
    go_wp2
    go_ret2
    exact ⟨rfl, Kept.refl w⟩
  · have A := Lib.hid h1
    have F := Lib.hid h2
    have T := Lib.hid h3
    clear h h1 h2 h3
    go_enter Tryd.func20, Tryd.ntmps20
    go_wp2_with fail
    refine (eam_any _ _).mono ?_
    rintro e w1 ⟨rfl, rfl⟩
    rw [A.out]
    go_wp2_with fail
    refine (edy_any _ _).mono ?_
    rintro e w1 ⟨rfl, rfl⟩
    rw [F.out]
    go_wp2_with fail
    refine (edy_any _ _).mono ?_
    rintro e w1 ⟨rfl, rfl⟩
    rw [T.out]
    go_wp2
    go_ret2
    exact ⟨rfl, Kept.refl w⟩
  · have A := Lib.hid h1
    have F := Lib.hid h2
    have T := Lib.hid h3
    have D := Lib.hid h4
    clear h h1 h2 h3 h4
    go_enter Tryd.func20, Tryd.ntmps20
    go_wp2_with fail
    refine (eam_any _ _).mono ?_
    rintro e w1 ⟨rfl, rfl⟩
    rw [A.out]
    go_wp2_with fail
    refine (edy_any _ _).mono ?_
    rintro e w1 ⟨rfl, rfl⟩
    rw [F.out]
    go_wp2_with fail
    refine (edy_any _ _).mono ?_
    rintro e w1 ⟨rfl, rfl⟩
    rw [T.out]
    go_wp2_with fail
    refine (edy_any _ _).mono ?_
    rintro e w1 ⟨rfl, rfl⟩
    rw [D.out]
    go_wp2
    go_ret2
    exact ⟨rfl, Kept.refl w⟩
  · have A := Lib.hid h1
    have F := Lib.hid h2
    have T := Lib.hid h3
    have D := Lib.hid h4
    clear h h1 h2 h3 h4
    go_enter Tryd.func20, Tryd.ntmps20
    go_wp2_with fail
    refine (eam_any _ _).mono ?_
    rintro e w1 ⟨rfl, rfl⟩
    rw [A.out]
    go_wp2_with fail
    refine (edy_any _ _).mono ?_
    rintro e w1 ⟨rfl, rfl⟩
    rw [F.out]
    go_wp2_with fail
    refine (edy_any _ _).mono ?_
    rintro e w1 ⟨rfl, rfl⟩
    rw [T.out]
    go_wp2_with fail
    refine (edy_any _ _).mono ?_
    rintro e w1 ⟨rfl, rfl⟩
    rw [D.out]
    go_wp2
    go_ret2
    exact ⟨rfl, Kept.refl w⟩
/-- Both together. -/
def ebV (a f t d : Int) : Int := if okE a f t d = true then eaV a f t d else 0
def ebE (a f t d : Int) : Int := if okE a f t d = true then 0 else 1
theorem eby_any (a f t d : Int) (w : World) :
    Calls Tryd.prog 20 #[.int .i64 a, .int .i64 f, .int .i64 t, .int .i64 d] w fun e w' => e = .returned (.tuple #[.int .i64 (ebV a f t d), .int .i64 (ebE a f t d)]) ∧ Kept w w' := by
  unfold ebV ebE
  cases h : okE a f t d
  · exact eby_no a f t d w h
  · exact eby_yes a f t d w h

/-- A number below n, by any number. -/
noncomputable def wN (k n : Int) : Int := IntKind.u64.wrap k % n
theorem wN_bd (k n : Int) (h : 1 ≤ n) : 0 ≤ wN k n ∧ wN k n < n := emod_bd _ _ (by omega)
theorem wN_val (k n : Int) (h0 : 1 ≤ n) (h1 : n ≤ 4000000000000) : wrap64 ((IntKind.u64.wrap k).tmod n) = wN k n := by
  have h3 : (IntKind.u64.wrap k).tmod n = wN k n := Int.tmod_eq_emod_of_nonneg (wrap_u64_nonneg k)
  have h4 := wN_bd k n h0
  rw [h3]
  unfold wrap64; omega
set_option maxHeartbeats 400000 in
theorem wN_any (k n : Int) (w : World) (h0 : 1 ≤ n) (h1 : n ≤ 4000000000000) :
    Calls Tryd.prog 13 #[.int .i64 k, .int .i64 n] w fun e w' => e = .returned (.int .i64 (wN k n)) ∧ w = w' := by
  go_enter Tryd.func13, Tryd.ntmps13
  go_wp2
  go_ret
  exact ⟨ret_int (wN_val k n h0 h1), rfl⟩
/-- A day, by any number. -/
noncomputable def dV (k : Int) : Int := wN k 292194
theorem dV_bd (k : Int) : 0 ≤ dV k ∧ dV k ≤ 292193 := by have := wN_bd k 292194 (by omega); unfold dV; omega
end Go.Proofs.YtjfflnkocajkeaaDoor
