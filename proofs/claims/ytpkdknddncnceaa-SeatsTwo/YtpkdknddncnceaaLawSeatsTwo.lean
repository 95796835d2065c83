/-
  The law SeatsTwo returns true: of two each has his share to the nearest seat. No condition.
-/
import Derived.Test.YtpkdknddncnceaaDWalkC
import Derived.Test.YtpkdknddncnceaaDMathB
namespace Go.Proofs.Ytpkdknddncnceaa
open Go.RowKit

set_option maxRecDepth 100000 in
set_option maxHeartbeats 4000000 in
theorem seatsTwo_walk (N A B : Int) (w : World) :
    Calls Try.prog 10 #[.int .i64 N, .int .i64 A, .int .i64 B] w fun e w' => e = .returned (.bool true) ∧ Kept w w' := by
  go_enter Try.func10, Try.ntmps10
  go_wp2_with fail
  have h3 := (Own.lit (w := w) (l := [7, 2]) (t := 3) rfl).rd
  refine (deal_lit 1 3 2 [7, 2] [2, 1] _ _ _ (by decide) (by decide) (by decide) (by decide) (by decide) h3).mono ?_
  rintro e w1 ⟨p1, hp1, rfl, hO1, hK1⟩
  have hKa := ((Kept.refl w).alloc _).trans hK1
  have hQ := (Own.lit (w := w1) (l := [2, 1]) (t := 3) rfl).rd
  clear h3 hK1 hp1
  go_wp2_with fail
  refine (equal_lit [2, 1] 2 _ _ _ _ _ (by decide) (by decide) (hO1.rd.later ((Kept.refl w1).alloc _)) hQ).mono ?_
  rintro e w2 ⟨rfl, hd⟩
  have hK2 := (hKa.alloc _).trans hd.kept
  clear hO1 hKa hd hQ
  go_wp2_with fail
  refine (within_any _ _ _ (by omega) (by omega)).mono ?_
  rintro e w3 ⟨s, s0, s3, rfl, rfl⟩
  obtain ⟨s, rfl⟩ := Int.eq_ofNat_of_zero_le s0
  go_wp2_with fail
  refine (within_any _ _ _ (by omega) (by omega)).mono ?_
  rintro e w3 ⟨a, a0, a3, rfl, rfl⟩
  go_wp2_with fail
  refine (within_any _ _ _ (by omega) (by omega)).mono ?_
  rintro e w3 ⟨b, b0, b3, rfl, rfl⟩
  have ok : TotOk (s : Int) 2 (lit [1 + a, 1 + b]) := by
    refine ⟨by omega, by omega, by omega, by omega, ?_, ?_, ?_⟩
    · intro i hi
      rcases (show i = 0 ∨ i = 1 by omega) with rfl | rfl <;> simp [lit] <;> omega
    · simp [sumTo, lit]; omega
    · simp [sumTo, lit]; omega
  have OK := Lib.hid ok
  have h3 := (Own.lit (w := w2) (l := [1 + a, 1 + b]) (t := 3) rfl).rd
  rw [← tab_lit [1 + a, 1 + b]] at h3
  have hKb := hK2.alloc (.cells (List.map (Value.int .i64) [1 + a, 1 + b]).toArray 3)
  clear ok
  go_wp2_with fail
  refine (deal_yes 1 s _ 2 _ (lit [1 + a, 1 + b]) _ (Arg.of h3) (by decide) (by decide) OK.out).mono ?_
  rintro e w4 ⟨q, hq, rfl, hO, hK⟩
  have hK4 := hKb.trans hK
  have F := dl_fr (way := 1) (fun q hq => (OK.out.wts q hq).1) OK.out.T0 s
  have X := F.1.two (fun q hq => by rcases (show q = 0 ∨ q = 1 by omega) with rfl | rfl <;> simp [lit] <;> omega) F.2
  have bd := dl_nn 1 (lit [1 + a, 1 + b]) 2 s 0
  have hc := hO.cell 0 (by rw [tab_len]; omega)
  rw [tab_get] at hc
  generalize dl 1 (lit [1 + a, 1 + b]) 2 s 0 = x at *
  simp only [lit, List.getD_cons_zero, List.getD_cons_succ] at X
  have m1 : 0 ≤ x * (1 + a + (1 + b)) := Int.mul_nonneg bd.1 (by omega)
  have m2 : x * (1 + a + (1 + b)) ≤ 500 * 2000 := Int.mul_le_mul (by omega) (by omega) (by omega) (by omega)
  have m3 : 0 ≤ (s : Int) * (1 + a) := Int.mul_nonneg (by omega) (by omega)
  have m4 : (s : Int) * (1 + a) ≤ 500 * 1000 := Int.mul_le_mul (by omega) (by omega) (by omega) (by omega)
  have XX := Lib.hid X
  have x1 : decide (2 * (x * (1 + a + (1 + b)) - (s : Int) * (1 + a)) ≤ 1 + a + (1 + b)) = true := by simp; exact X.1
  have x2 : decide (-2 * (x * (1 + a + (1 + b)) - (s : Int) * (1 + a)) ≤ 1 + a + (1 + b)) = true := by simp only [decide_eq_true_eq]; exact X.2
  clear hO h3 hKb hK hq F X
  go_wp2
  go_ret
  exact ⟨ret_bool (by simp), hK4⟩

end Go.Proofs.Ytpkdknddncnceaa
