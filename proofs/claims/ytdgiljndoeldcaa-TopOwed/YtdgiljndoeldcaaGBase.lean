/-
  A row of items of the call's own, by the places where they stood: read, exchanged, kept. No condition but those that each theorem names.
-/
import Derived.Test.YtdgiljndoeldcaaGAge
import Derived.Test.YtdgiljndoeldcaaPApp
import Derived.Test.YtdgiljndoeldcaaMgTMathB
import Derived.Shelf.SlSortCmp.QuietGrown
namespace Go.Proofs.Ytdgiljndoeldcaa
open Go.RowKit Go.Sort
set_option linter.unusedVariables false

/-- The cells of a row of items, one behind the other. -/
def fl (C : Int → Mv) (d : Nat → Int) : Nat → Int := fun q => if q % 2 = 0 then (C (d (q / 2))).1 else (C (d (q / 2))).2
/-- The row: at place q the item that stood at d q. -/
structure IOw (C : Int → Mv) (w : World) (p N : Nat) (d : Nat → Int) : Prop where
  own : Own w p (tab (N * 2) (fl C d))
theorem fl0 (C : Int → Mv) (d : Nat → Int) (j : Nat) : fl C d (j * 2) = (C (d j)).1 := by
  unfold fl; rw [if_pos (by omega), show j * 2 / 2 = j by omega]
theorem fl1 (C : Int → Mv) (d : Nat → Int) (j : Nat) : fl C d (j * 2 + 1) = (C (d j)).2 := by
  unfold fl; rw [if_neg (by omega), show (j * 2 + 1) / 2 = j by omega]
section
variable {C : Int → Mv} {w w' : World} {p N : Nat} {d : Nat → Int}
theorem IOw.lt (h : IOw C w p N d) : p < w.heap.size := h.own.lt
theorem IOw.c0 (h : IOw C w p N d) (j : Nat) (hj : j < N) : w.cell? ⟨p, j * 2, none⟩ = some (.int .i64 (C (d j)).1) := by
  have := h.own.cell (j * 2) (by rw [tab_len]; omega)
  rwa [tab_get, fl0] at this
theorem IOw.c1 (h : IOw C w p N d) (j : Nat) (hj : j < N) : w.cell? ⟨p, j * 2 + 1, none⟩ = some (.int .i64 (C (d j)).2) := by
  have := h.own.cell (j * 2 + 1) (by rw [tab_len]; omega)
  rwa [tab_get, fl1] at this
theorem IOw.f0 (h : IOw C w p N d) (j : Nat) (hj : j < N) : w.frozen? ⟨p, j * 2, none⟩ = false := h.own.free (j * 2) (by rw [tab_len]; omega)
theorem IOw.f1 (h : IOw C w p N d) (j : Nat) (hj : j < N) : w.frozen? ⟨p, j * 2 + 1, none⟩ = false := h.own.free (j * 2 + 1) (by rw [tab_len]; omega)
theorem IOw.later (h : IOw C w p N d) (k : Kept w w') : IOw C w' p N d := ⟨h.own.later k⟩
theorem IOw.drew (h : IOw C w p N d) : IOw C w.drew p N d := ⟨h.own.drew⟩
theorem IOw.drewN (h : IOw C w p N d) (m : Nat) : IOw C (w.drewN m) p N d := ⟨h.own.drewN m⟩
theorem IOw.swap (h : IOw C w p N d) {i j : Nat} (hi : i < N) (hj : j < N) (ne : i ≠ j) :
    IOw C ((((w.setCell ⟨p, i * 2, none⟩ (.int .i64 (C (d j)).1)).setCell ⟨p, i * 2 + 1, none⟩ (.int .i64 (C (d j)).2)).setCell ⟨p, j * 2, none⟩ (.int .i64 (C (d i)).1)).setCell ⟨p, j * 2 + 1, none⟩ (.int .i64 (C (d i)).2)) p N (sw d i j) := by
  have h1 := h.own.set (i * 2) (C (d j)).1 (by rw [tab_len]; omega)
  rw [tab_set] at h1
  have h2 := h1.set (i * 2 + 1) (C (d j)).2 (by rw [tab_len]; omega)
  rw [tab_set] at h2
  have h3 := h2.set (j * 2) (C (d i)).1 (by rw [tab_len]; omega)
  rw [tab_set] at h3
  have h4 := h3.set (j * 2 + 1) (C (d i)).2 (by rw [tab_len]; omega)
  rw [tab_set] at h4
  refine ⟨?_⟩
  have e : up (up (up (up (fl C d) (i * 2) (C (d j)).1) (i * 2 + 1) (C (d j)).2) (j * 2) (C (d i)).1) (j * 2 + 1) (C (d i)).2 = fl C (sw d i j) := by
    funext q
    unfold up fl
    rw [sw_at]
    have hq : q / 2 * 2 = q ∨ q / 2 * 2 + 1 = q := by omega
    by_cases a : q / 2 = j
    · rw [if_pos a]
      rcases hq with e | e
      · rw [if_neg (by omega), if_pos (by omega), if_pos (by omega)]
      · rw [if_pos (by omega), if_neg (by omega)]
    · rw [if_neg a, if_neg (by omega), if_neg (by omega)]
      by_cases b : q / 2 = i
      · rw [if_pos b]
        rcases hq with e | e
        · rw [if_neg (by omega), if_pos (by omega), if_pos (by omega)]
        · rw [if_pos (by omega), if_neg (by omega)]
      · rw [if_neg b, if_neg (by omega), if_neg (by omega)]
  rw [← e]; exact h4
end
theorem kept_grow {a w : World} (h : Kept a w) (os : Array Obj) : Kept a (grow w os) :=
  h.trans (Kept.grown0 ⟨rfl, rfl, rfl, by rw [size_grow]; exact Nat.le_add_right _ _, fun k hk _ => heap_grow_old w os hk⟩)
theorem kept_grown {a w : World} (h : Kept a w) (n : Nat) (os : Array Obj) : Kept a (grow (w.drewN n) os) := kept_grow (h.drewN n) os
end Go.Proofs.Ytdgiljndoeldcaa
