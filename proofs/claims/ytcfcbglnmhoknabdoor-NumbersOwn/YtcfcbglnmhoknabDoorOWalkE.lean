/-
  By at the law's own test; the state of the law behind its calls. No condition but those that each theorem names.
-/
import Derived.Test.YtcfcbglnmhoknabDoorOWalkD
namespace Go.Proofs.YtcfcbglnmhoknabDoor
open Go.RowKit Go.WideShapes

theorem by_3 (p : Nat) (w : World) (hR : Rd w p 0 (tab 1 (fun _ => 1))) :
    Calls Tryd.prog 22 #[.int .i64 3, .slice (some ⟨p, 0, none⟩) 1 1] w fun e w' => ∃ q : Nat, w.heap.size ≤ q ∧ e = .returned (.tuple #[.slice (some ⟨q, 0, none⟩) 1 1, .int .i64 0]) ∧ Rd w' q 0 (tab 1 (fun _ => 3)) ∧ Kept w w' := by
  refine (by_yes 3 (some ⟨p, 0, none⟩) 1 1 0 (fun _ => 1) w (Arg.of hR) (by decide) (by decide)).mono ?_
  rintro e w' ⟨q, d, hq, rfl, _, hO, hK⟩
  refine ⟨q, hq, rfl, ?_, hK⟩
  have := hO.rd
  rw [tab_congr 1 (h := fun _ => 3) (fun j hj => ?_)] at this
  · exact this
  · obtain rfl : j = 0 := by omega
    simp [sg, addU, bs, sumTo]
theorem Rm.arg {w : World} {g n k : Nat} {wt : Nat → Int} {x : Int} (h : Rm w g n k wt x) : Arg w (some ⟨g, 0, none⟩) n wt :=
  .inr ⟨g, 0, rfl, h.wr.lt, fun j hj => by rw [tab_get, Nat.zero_add]; rw [tab_len] at hj; exact h.c j hj⟩
theorem Arg.rdn {w : World} {a : Option Addr} {n : Nat} {g : Nat → Int} (h : Arg w a n g) : RdN w a n g := by
  rcases h with h | ⟨p, off, e, hR⟩
  · exact .inl h
  · exact .inr ⟨p, off, e, fun j hj => by have := hR.cell j (by rw [tab_len]; exact hj); rw [tab_get] at this; exact this⟩
/-- How many rows a loan has; none where there is an error. -/
def rcn (L r pay : Int) : Nat := if erL L r pay = 0 then cnt r pay 40 L else 0
theorem rcn_le (L r pay : Int) : rcn L r pay ≤ 40 := by
  unfold rcn
  split
  · exact cnt_le r pay 40 L
  · omega
theorem rows_one (L r pay : Int) (w : World) :
    Calls Tryd.prog 31 #[.int .i64 L, .int .i64 r, .int .i64 pay] w fun e w' => ∃ (v : Value) (er : Int), e = .returned (.tuple #[v, .int .i64 er]) ∧ RGr w.heap.size w' v (rcn L r pay) (rwF r pay L) ∧ Kept w w' := by
  refine (rows_any L r pay w).mono ?_
  rintro e w' (⟨h, a, c, rfl, hG, hK⟩ | ⟨h, rfl, hK⟩)
  · exact ⟨_, _, rfl, by unfold rcn; rw [if_pos h]; exact hG, hK⟩
  · exact ⟨_, _, rfl, by unfold rcn; rw [if_neg h]; exact RGr.nil _ _ _, hK⟩

end Go.Proofs.YtcfcbglnmhoknabDoor
