/-
  The reference of depreciation by the line and by digits: Off, Digits, Parts with its closure, Parted. No condition but those that each theorem names.
-/
import Derived.Test.YtcelkgbpgpgpjaaLWalkB
import Derived.Test.YtcelkgbpgpgpjaaMWalkC
import Derived.Test.YtcelkgbpgpgpjaaSGrow
namespace Go.Proofs.Ytcelkgbpgpgpjaa
open Go.RowKit

set_option maxHeartbeats 1000000 in
theorem roff_any (c r n : Int) (w : World) :
    Calls Try.prog 11 #[.int .i64 c, .int .i64 r, .int .i64 n] w fun e w' => e = .returned (.int .i64 (erA c r n)) ∧ w = w' := by
  have E := Lib.hid (show erA c r n = if inB c 0 1000000000000 = true then (if inB r 0 c = true then (if inB n 1 40 = true then 0 else 1) else 1) else 1 by
    unfold erA okA inB
    simp only [decide_eq_true_eq]
    split <;> split <;> (try split) <;> (try split) <;> omega)
  generalize erA c r n = R at *
  have e1 := E.out
  cases h1 : inB c 0 1000000000000
  · have H1 := Lib.hid h1
    rw [h1] at e1
    clear h1 E
    go_enter Try.func11, Try.ntmps11
    go_wp2_with fail
    refine (rwithin_any _ _ _ _).mono ?_
    rintro e w1 ⟨rfl, rfl⟩
    rw [H1.out]
    go_wp2
    go_ret
    exact ⟨ret_int (by simp [e1]), rfl⟩
  · have H1 := Lib.hid h1
    rw [h1] at e1
    clear h1
    cases h2 : inB r 0 c
    · have H2 := Lib.hid h2
      rw [h2] at e1
      clear h2 E
      go_enter Try.func11, Try.ntmps11
      go_wp2_with fail
      refine (rwithin_any _ _ _ _).mono ?_
      rintro e w1 ⟨rfl, rfl⟩
      rw [H1.out]
      go_wp2_with fail
      refine (rwithin_any _ _ _ _).mono ?_
      rintro e w1 ⟨rfl, rfl⟩
      rw [H2.out]
      go_wp2
      go_ret
      exact ⟨ret_int (by simp [e1]), rfl⟩
    · have H2 := Lib.hid h2
      rw [h2] at e1
      clear h2 E
      cases h3 : inB n 1 40
      · have H3 := Lib.hid h3
        rw [h3] at e1
        clear h3
        go_enter Try.func11, Try.ntmps11
        go_wp2_with fail
        refine (rwithin_any _ _ _ _).mono ?_
        rintro e w1 ⟨rfl, rfl⟩
        rw [H1.out]
        go_wp2_with fail
        refine (rwithin_any _ _ _ _).mono ?_
        rintro e w1 ⟨rfl, rfl⟩
        rw [H2.out]
        go_wp2_with fail
        refine (rwithin_any _ _ _ _).mono ?_
        rintro e w1 ⟨rfl, rfl⟩
        rw [H3.out]
        go_wp2
        go_ret
        exact ⟨ret_int (by simp [e1]), rfl⟩
      · have H3 := Lib.hid h3
        rw [h3] at e1
        clear h3
        go_enter Try.func11, Try.ntmps11
        go_wp2_with fail
        refine (rwithin_any _ _ _ _).mono ?_
        rintro e w1 ⟨rfl, rfl⟩
        rw [H1.out]
        go_wp2_with fail
        refine (rwithin_any _ _ _ _).mono ?_
        rintro e w1 ⟨rfl, rfl⟩
        rw [H2.out]
        go_wp2_with fail
        refine (rwithin_any _ _ _ _).mono ?_
        rintro e w1 ⟨rfl, rfl⟩
        rw [H3.out]
        go_wp2
        go_ret
        exact ⟨ret_int (by simp [e1]), rfl⟩
/-- What has grown by steps that keep all. -/
def PartedPost (w : World) (n : Nat) (g : Nat → Int) (e : Ending) (w' : World) : Prop :=
  ∃ (ad : Option Addr) (cap : Nat), e = .returned (.slice ad n cap) ∧ Arg w' ad n g ∧ Kept w w'
theorem Gr.ofDrew {B n : Nat} {w w' : World} {v : Value} {g : Nat → Int} (a : Gr B w v n g) (h : Drew w w') : Gr B w' v n g := by
  obtain ⟨m, rfl⟩ := h
  exact ⟨a.own⟩

end Go.Proofs.Ytcelkgbpgpgpjaa
