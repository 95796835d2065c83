/-
  Even in one contract; a box that may be written; what the law SplitSays needs of numbers. No condition but those that each theorem names.
-/
import Derived.Test.YtkbbofpjelgiiabSWalkI
import Derived.Test.YtkbbofpjelgiiabSMathD
namespace Go.Proofs.Ytkbbofpjelgiiab
open Go.RowKit

structure FBox (w : World) (p : Nat) (v : Value) : Prop where
  lt : p < w.heap.size
  cell : w.cell? ⟨p, 0, none⟩ = some v
  free : w.frozen? ⟨p, 0, none⟩ = false
theorem FBox.later {w w' : World} {p : Nat} {v : Value} (h : FBox w p v) (k : Kept w w') : FBox w' p v := ⟨Nat.lt_of_lt_of_le h.lt k.le, (k.rd.1 _ _ h.lt).trans h.cell, (k.rd.2 _ _ h.lt).trans h.free⟩
theorem FBox.new {w : World} {p : Nat} {v : Value} {t : TypeId} (hp : w.heap.size = p) : FBox (w.alloc (.cells #[v] t)) p v := by
  subst hp; exact ⟨by simp, by simp, by simp⟩
theorem FBox.other {w : World} {p r i : Nat} {v x : Value} (h : FBox w p v) (hr : r ≠ p) : FBox (w.setCell ⟨r, i, none⟩ x) p v := by
  have hr' : p ≠ r := fun e => hr e.symm
  have hc := h.cell
  have hf := h.free
  refine ⟨by simpa using h.lt, ?_, ?_⟩ <;> go_simp
theorem FBox.set {w : World} {p : Nat} {v x : Value} (h : FBox w p v) : FBox (w.setCell ⟨p, 0, none⟩ x) p x := by
  have hc := h.cell
  have hf := h.free
  refine ⟨by simpa using h.lt, ?_, ?_⟩ <;> go_simp
theorem FBox.sl {w : World} {p : Nat} {v : Value} (h : FBox w p v) : SlBox w p v := ⟨h.lt, h.cell⟩

/-- What Even returns. -/
def EvOk (amount n : Int) : Prop := amB amount = true ∧ 1 ≤ n ∧ n ≤ 40
def EvenAny (w : World) (amount n : Int) (e : Ending) (w' : World) : Prop :=
  ∃ (v : Value) (f : Int), e = .returned (.tuple #[v, .int .i64 f]) ∧ Kept w w' ∧
    Hid ((EvOk amount n ∧ f = 0 ∧ ∃ q, w.heap.size ≤ q ∧ v = .slice (some ⟨q, 0, none⟩) n.toNat n.toNat ∧ Own w' q (tab n.toNat (evV amount n.toNat))) ∨ (¬ EvOk amount n ∧ f = 1 ∧ v = .slice none 0 0))
theorem even_any (amount n : Int) (w : World) : Calls Try.prog 10 #[.int .i64 amount, .int .i64 n] w (EvenAny w amount n) := by
  by_cases h : EvOk amount n
  · obtain ⟨m, rfl⟩ := Int.eq_ofNat_of_zero_le (show 0 ≤ n by have := h.2; omega)
    have h2 := h.2
    refine (even_yes amount m w h.1 (by omega) (by omega)).mono ?_
    rintro e w1 ⟨q, hq, rfl, hO, hK⟩
    refine ⟨_, _, rfl, hK, Lib.hid (.inl ⟨h, rfl, q, hq, ?_, ?_⟩)⟩
    · rw [Int.toNat_natCast]
    · rw [Int.toNat_natCast]; exact hO
  · refine (even_no amount n w ?_).mono ?_
    · cases c : amB amount
      · exact .inl rfl
      · right
        by_cases z : n < 1
        · exact .inl z
        · by_cases y : 40 < n
          · exact .inr y
          · exact absurd ⟨c, by omega, by omega⟩ h
    · rintro e w1 ⟨rfl, rfl⟩
      exact ⟨_, _, rfl, Kept.refl w, Lib.hid (.inr ⟨h, rfl, rfl⟩)⟩
end Go.Proofs.Ytkbbofpjelgiiab
