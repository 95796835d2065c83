/-
  The law BookSays: for every book, entry and key it answers true; nothing that was there is turned. No condition but those that each theorem names.
-/
import Derived.Test.YtbaahnafmfjpaaaGreatDoorMgYWalkO
import Derived.Test.YtbaahnafmfjpaaaGreatDoorHWalkH
namespace Go.Proofs.YtbaahnafmfjpaaaGreatDoor
open Go.RowKit
set_option linter.unusedVariables false

theorem no_m (w : World) : BkM w noA noB := ⟨.inl rfl, (fun x hx => by cases hx), Nat.le_refl _, Nat.zero_le _, .inl rfl, (fun x hx => by cases hx), Nat.le_refl _, Nat.zero_le _⟩
set_option maxHeartbeats 2000000 in
theorem told_yes (q q' : BkA) (b : Bk) (er : Int) (w : World) (h1 : BkM w q b) (h2 : BkM w q' b) (na : b.acs.length ≤ 24) (ne : b.ens.length ≤ 60) (nl : ∀ x ∈ b.ens, x.lns.length ≤ 12) :
    Calls Tryz.prog 7 #[bkV q b, .int .i64 er, bkV q' b, .int .i64 er] w fun e w' => e = .returned (.bool true) ∧ Kept w w' := by
  have kE := ((Kept.refl w).alloc (bkO q b)).alloc (bkO q' b)
  have HX := Lib.hid (sbook_yes q q' b _ (h1.later kE) (h2.later kE) na ne nl)
  clear h1 h2 nl
  go_enter Tryz.func7, Tryz.ntmps7
  go_wp2_with fail
  refine HX.out.mono ?_
  rintro e w1 ⟨rfl, hK1⟩
  go_wp2
  go_ret
  exact ⟨rfl, kE.trans hK1⟩
theorem told_no (er : Int) (w : World) :
    Calls Tryz.prog 7 #[.agg #[.slice none 0 0, .slice none 0 0, .int .i64 0], .int .i64 er, .agg #[.slice none 0 0, .slice none 0 0, .int .i64 0], .int .i64 er] w fun e w' => e = .returned (.bool true) ∧ Kept w w' :=
  told_yes noA noA noB er w (no_m w) (no_m w) (Nat.zero_le _) (Nat.zero_le _) (fun x hx => by cases hx)
def twoB : Bk := ⟨[], [], -2⟩
theorem two_m (w : World) : BkM w noA twoB := ⟨.inl rfl, (fun x hx => by cases hx), Nat.le_refl _, Nat.zero_le _, .inl rfl, (fun x hx => by cases hx), Nat.le_refl _, Nat.zero_le _⟩
theorem two_e : bkE twoB = 1 := by decide +kernel
end Go.Proofs.YtbaahnafmfjpaaaGreatDoor
