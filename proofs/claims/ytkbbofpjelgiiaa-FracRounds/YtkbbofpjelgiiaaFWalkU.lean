/-
  The reference's Frac of one and of two fractions, in whatever world holds them in a row. No condition.
-/
import Derived.Test.YtkbbofpjelgiiaaFWalkS
namespace Go.Proofs.Ytkbbofpjelgiiaa
open Go.RowKit

theorem rowfr_1p {w : World} {a b : Int} {t : TypeId} {p : Nat} (hp : w.heap.size = p) : RowFr (w.alloc (.cells #[.int .i64 a, .int .i64 b] t)) p [(a, b)] := by
  subst hp; exact rowfr_1 w a b t
theorem rowfr_2p {w : World} {a b c d : Int} {t : TypeId} {p : Nat} (hp : w.heap.size = p) : RowFr (w.alloc (.cells #[.int .i64 a, .int .i64 b, .int .i64 c, .int .i64 d] t)) p [(a, b), (c, d)] := by
  subst hp; exact rowfr_2 w a b c d t
theorem RowFr.drew {w : World} {p : Nat} {l : List (Int × Int)} (h : RowFr w p l) : RowFr w.drew p l := h
theorem rfrac_at1 (a b : Int) (p : Nat) (w : World) (h : RowFr w p [(a, b)]) :
    Calls Try.prog 15 #[.slice (some ⟨p, 0, none⟩) 1 1] w fun e w' => e = .returned (.int .i64 (chk a b)) ∧ Kept w w' := by
  refine (rfrac_any [(a, b)] p w (by simp) h).mono ?_
  rintro e w' ⟨rfl, hk⟩
  exact ⟨by rw [chkL_1], hk⟩
theorem rfrac_at2 (a b c d : Int) (p : Nat) (w : World) (h : RowFr w p [(a, b), (c, d)]) :
    Calls Try.prog 15 #[.slice (some ⟨p, 0, none⟩) 2 2] w fun e w' => e = .returned (.int .i64 (chk2 a b c d)) ∧ Kept w w' := by
  refine (rfrac_any [(a, b), (c, d)] p w (by simp) h).mono ?_
  rintro e w' ⟨rfl, hk⟩
  exact ⟨by rw [chkL_2], hk⟩
theorem two_keep {W w' : World} {p q : Nat} {a b c d : Int} (hA : Box2 W p a b) (hB : Box2 W q c d) (k : Kept W w') :
    Kept W w' ∧ w'.cell? ⟨p, 0, none⟩ = some (.int .i64 a) ∧ w'.cell? ⟨p, 1, none⟩ = some (.int .i64 b) ∧ w'.cell? ⟨q, 0, none⟩ = some (.int .i64 c) ∧ w'.cell? ⟨q, 1, none⟩ = some (.int .i64 d) :=
  ⟨k, (hA.later k).c0, (hA.later k).c1, (hB.later k).c0, (hB.later k).c1⟩
/-- The two boxes, the two errors, behind the drawn region. -/
def Two (w : World) (a b c d : Int) (one two : Value) (wx : World) : Prop :=
  one = .int .i64 (chk a b) ∧ two = .int .i64 (chk2 a b c d) ∧ Box2 wx w.heap.size a b ∧ Box2 wx (w.heap.size + 1) c d ∧ Kept w wx

end Go.Proofs.Ytkbbofpjelgiiaa
