/-
  What the tests' plain book, first sale and first look return, and what compares books. No condition but those that each theorem names.
-/
import Derived.Test.YtdgiljndoeldcaaHWalkE
namespace Go.Proofs.Ytdgiljndoeldcaa
open Go.RowKit
set_option linter.unusedVariables false

/-- The accounts of the plain book. -/
def plainL : List Pr := [(⟨#[49, 48]⟩, 0), (⟨#[50, 48]⟩, 1), (⟨#[51, 48]⟩, 2), (⟨#[52, 48]⟩, 3), (⟨#[53, 48]⟩, 4)]
def plainB : Bk := ⟨plainL, [], -1⟩
/-- A book. -/
def PlPost (w : World) (b : Bk) (e : Ending) (w' : World) : Prop := ∃ q, e = .returned (bkV q b) ∧ BkM w' q b ∧ Kept w w'
theorem plain_row (w : World) (p : Nat) (t : TypeId) (hp : w.heap.size = p) : PRow (w.alloc (.cells #[.string ⟨#[49, 48]⟩, .int .i64 0, .string ⟨#[50, 48]⟩, .int .i64 1, .string ⟨#[51, 48]⟩, .int .i64 2, .string ⟨#[52, 48]⟩, .int .i64 3, .string ⟨#[53, 48]⟩, .int .i64 4] t)) p 0 plainL := by
  subst hp
  refine ⟨by simp, fun j hj => ?_, fun j hj => ?_⟩
  all_goals
    have hj' : j < 5 := hj
    match j, hj' with
    | 0, _ => simp [plainL]
    | 1, _ => simp [plainL]
    | 2, _ => simp [plainL]
    | 3, _ => simp [plainL]
    | 4, _ => simp [plainL]
theorem plain_sh : Shortish plainL := by
  intro x hx
  simp [plainL] at hx
  rcases hx with rfl | rfl | rfl | rfl | rfl <;> (unfold maxLen; decide)
/-- The first sale. -/
def saleE : Et := ⟨⟨#[97]⟩, 5, saleL 7⟩
theorem sale_m {w : World} {p : Nat} (h : PRow w p 0 (saleL 7)) : EtM w saleE (some ⟨p, 0, none⟩) 2 := by
  refine ⟨by unfold maxLen; decide, by unfold maxLen; decide, .inr ⟨p, 0, rfl, h⟩, ?_, by decide, by unfold maxLen; decide⟩
  intro x hx
  simp [saleE, saleL] at hx
  rcases hx with rfl | rfl <;> (unfold maxLen; decide)
theorem sale_ok : poE plainB saleE = 0 := by decide +kernel
theorem sale_po : poV plainB saleE = ⟨plainL, [saleE], -1⟩ := by
  unfold poV
  rw [if_neg (by decide)]
  rfl
theorem sale_bal : balS ⟨#[52, 48]⟩ 5 [saleE] = -7 := by decide +kernel
theorem sale_ba : baE ⟨plainL, [saleE], -1⟩ ⟨#[52, 48]⟩ 5 = 0 := by decide +kernel
theorem sale_ck : bkE ⟨plainL, [saleE], -1⟩ = 0 := by decide +kernel
/-- What talkeep's Within makes of a number. -/
def wnV (k n : Int) : Int := IntKind.u64.wrap k % n
theorem wnV_bd (k : Int) {n : Int} (h : 1 ≤ n) : 0 ≤ wnV k n ∧ wnV k n < n := ⟨Int.emod_nonneg _ (by omega), Int.emod_lt_of_pos _ (by omega)⟩
theorem wnV_eq (k n : Int) (h0 : 1 ≤ n) (h1 : n ≤ 1000000000) : wrap64 ((IntKind.u64.wrap k).tmod n) = wnV k n := by
  have h2 : 0 ≤ IntKind.u64.wrap k := by rw [IntKind.wrap_u64]; omega
  have h3 : (IntKind.u64.wrap k).tmod n = wnV k n := Int.tmod_eq_emod_of_nonneg h2
  obtain ⟨h4, h5⟩ := wnV_bd k h0
  rw [h3]; unfold wrap64; omega
set_option maxHeartbeats 400000 in
theorem wn_any (k n : Int) (w : World) (h0 : 1 ≤ n) (h1 : n ≤ 1000000000) :
    Calls Try.prog 27 #[.int .i64 k, .int .i64 n] w fun e w' => e = .returned (.int .i64 (wnV k n)) ∧ w = w' := by
  have E := Lib.hid (wnV_eq k n h0 h1)
  go_enter Try.func27, Try.ntmps27
  go_wp2
  go_ret
  exact ⟨ret_int E.out, rfl⟩
/-- A day that the tests take. -/
def dyV (n : Int) : Int := wnV n 292194
theorem dyV_ok (n : Int) : dyB (dyV n) = true := (dyB_iff _).2 (by have := wnV_bd n (n := 292194) (by decide); unfold dyV; omega)
set_option maxHeartbeats 400000 in
theorem day_any (n : Int) (w : World) : Calls Try.prog 31 #[.int .i64 n] w fun e w' => e = .returned (.int .i64 (dyV n)) ∧ w = w' := by
  go_enter Try.func31, Try.ntmps31
  go_wp2_with fail
  refine (wn_any n 292194 w (by decide) (by decide)).mono ?_
  rintro e w1 ⟨rfl, rfl⟩
  go_wp2
  go_ret
  exact ⟨rfl, rfl⟩
end Go.Proofs.Ytdgiljndoeldcaa
