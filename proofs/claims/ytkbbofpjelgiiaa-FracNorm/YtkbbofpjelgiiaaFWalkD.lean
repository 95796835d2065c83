/-
  What the functions of package frac return, whatever is handed in. No condition.
-/
import Derived.Test.YtkbbofpjelgiiaaFWalkC
namespace Go.Proofs.Ytkbbofpjelgiiaa
open Go.RowKit

theorem chk_ne {n d : Int} (h : okB n d = false) : (chk n d != 0) = true := by
  rw [bne_iff_ne]; intro e; rw [chk_iff, h] at e; cases e
theorem chk2_ne {a b c d : Int} (h : okB a b = false ∨ okB c d = false) : chk2 a b c d ≠ 0 := by
  intro e; rw [chk2_iff] at e; rcases h with h | h
  · rw [h] at e; exact absurd e.1 (by simp)
  · rw [h] at e; exact absurd e.2 (by simp)
/-- Whatever is handed in, Round returns a number and an error. -/
theorem round_any (n d way : Int) (w : World) (hw0 : 0 ≤ way) (hw3 : way ≤ 3) :
    Calls Try.prog 21 #[fr2 n d, .int .i64 way] w fun e w' => e = .returned (.tuple #[.int .i64 (if okB n d = true then rnd n d way else 0), .int .i64 (chk n d)]) ∧ Kept w w' := by
  cases h : okB n d
  · exact round_no n d way w h
  · rw [chk_ok h]; exact round_yes n d way w h hw0 hw3
theorem cmp_any (a b c d : Int) (w : World) :
    Calls Try.prog 20 #[fr2 a b, fr2 c d] w fun e w' => e = .returned (.tuple #[.int .i64 (if chk2 a b c d = 0 then cmpV (a * d) (c * b) else 0), .int .i64 (chk2 a b c d)]) ∧ Kept w w' := by
  by_cases h : chk2 a b c d = 0
  · obtain ⟨h1, h2⟩ := (chk2_iff a b c d).1 h
    rw [if_pos h, h]; exact cmp_yes a b c d w h1 h2
  · rw [if_neg h]; exact cmp_no a b c d w h

theorem norm_any (n d : Int) (w : World) :
    Calls Try.prog 12 #[fr2 n d] w fun e w' => e = .returned (.tuple #[fr2 (if okB n d = true then lN n d else 0) (if okB n d = true then lD n d else 0), .int .i64 (chk n d)]) ∧ Kept w w' := by
  cases h : okB n d
  · exact norm_no n d w h
  · rw [chk_ok h]; exact norm_yes n d w h
/-- What Add and Mul return. -/
def aN (a b c d : Int) : Int := if chk2 a b c d = 0 then bN (sN a b c d) (sD a b c d) else 0
def aD (a b c d : Int) : Int := if chk2 a b c d = 0 then bD (sN a b c d) (sD a b c d) else 0
def aE (a b c d : Int) : Int := if chk2 a b c d = 0 then bE (sN a b c d) (sD a b c d) else chk2 a b c d
def mN (a b c d : Int) : Int := if chk2 a b c d = 0 then bN (pN a b c d) (pD a b c d) else 0
def mD (a b c d : Int) : Int := if chk2 a b c d = 0 then bD (pN a b c d) (pD a b c d) else 0
def mE (a b c d : Int) : Int := if chk2 a b c d = 0 then bE (pN a b c d) (pD a b c d) else chk2 a b c d
theorem add_any (a b c d : Int) (w : World) :
    Calls Try.prog 13 #[fr2 a b, fr2 c d] w fun e w' => e = .returned (.tuple #[fr2 (aN a b c d) (aD a b c d), .int .i64 (aE a b c d)]) ∧ Kept w w' := by
  unfold aN aD aE
  by_cases h : chk2 a b c d = 0
  · obtain ⟨h1, h2⟩ := (chk2_iff a b c d).1 h
    rw [if_pos h, if_pos h, if_pos h]; exact add_yes a b c d w h1 h2
  · rw [if_neg h, if_neg h, if_neg h]; exact add_no a b c d w h
theorem mul_any (a b c d : Int) (w : World) :
    Calls Try.prog 14 #[fr2 a b, fr2 c d] w fun e w' => e = .returned (.tuple #[fr2 (mN a b c d) (mD a b c d), .int .i64 (mE a b c d)]) ∧ Kept w w' := by
  unfold mN mD mE
  by_cases h : chk2 a b c d = 0
  · obtain ⟨h1, h2⟩ := (chk2_iff a b c d).1 h
    rw [if_pos h, if_pos h, if_pos h]; exact mul_yes a b c d w h1 h2
  · rw [if_neg h, if_neg h, if_neg h]; exact mul_no a b c d w h
/-- Where what comes of it may be: itself. -/
theorem add_in {a b c d : Int} (h : okB a b = true) (h' : okB c d = true) (o : okB (sN a b c d) (sD a b c d) = true) : aN a b c d = sN a b c d ∧ aD a b c d = sD a b c d ∧ aE a b c d = 0 := by
  have k := (chk2_iff a b c d).2 ⟨h, h'⟩
  unfold aN aD aE bN bD bE
  rw [if_pos k, if_pos k, if_pos k, if_pos o, if_pos o, if_pos o]; exact ⟨rfl, rfl, rfl⟩
theorem mul_in' {a b c d : Int} (h : okB a b = true) (h' : okB c d = true) (o : okB (pN a b c d) (pD a b c d) = true) : mN a b c d = pN a b c d ∧ mD a b c d = pD a b c d ∧ mE a b c d = 0 := by
  have k := (chk2_iff a b c d).2 ⟨h, h'⟩
  unfold mN mD mE bN bD bE
  rw [if_pos k, if_pos k, if_pos k, if_pos o, if_pos o, if_pos o]; exact ⟨rfl, rfl, rfl⟩

end Go.Proofs.Ytkbbofpjelgiiaa
