/-
  What is used of every walk over rows of integers: what stays as it was, rows that are read, rows of the call's own, made and written. No condition.
-/
import Derived.Test.YtdgiljndoeldcaaRows
import Derived.WalkKit
import Derived.WalkSpells
import Derived.WalkLawsBesides
import Derived.Deep.QuietTactic
import Derived.BigQuiet
import Derived.Lib.Hide
import Derived.Deep.RegionHeld3
import Derived.IntWalk
import Derived.BigRegion
import Derived.Laws.MakeOwn
import Derived.Deep.DeepCutAuto
namespace Go.Proofs.Ytdgiljndoeldcaa
open Go.RowKit

/-- Nothing that was there has turned. -/
def Kept (w w' : World) : Prop := Below w.heap.size w w'
theorem Kept.refl (w : World) : Kept w w := Below.refl _ _
theorem Kept.trans {a b c : World} (h : Kept a b) (k : Kept b c) : Kept a c := Below.trans h (Below.mono k h.size)
theorem Kept.rd {W w1 : World} (hb : Kept W w1) : (∀ b o, b < W.heap.size → w1.cell? ⟨b, o, none⟩ = W.cell? ⟨b, o, none⟩) ∧ (∀ b o, b < W.heap.size → w1.frozen? ⟨b, o, none⟩ = W.frozen? ⟨b, o, none⟩) :=
  ⟨fun b o h => Below.cell hb (p := ⟨b, o, none⟩) h, fun b o h => Below.frozen hb (p := ⟨b, o, none⟩) h⟩
theorem Kept.le {W w1 : World} (hb : Kept W w1) : W.heap.size ≤ w1.heap.size := hb.size
theorem Kept.alloc {a w : World} (h : Kept a w) (o : Obj) : Kept a (w.alloc o) := Below.alloc h h.size o
theorem Kept.drew {a w : World} (h : Kept a w) : Kept a w.drew := Below.drew h
theorem Kept.drewN {a w : World} (h : Kept a w) (n : Nat) : Kept a (w.drewN n) := below_drewN h n
theorem Kept.setCell {a w : World} (h : Kept a w) {p : Addr} (hp : a.heap.size ≤ p.block) (u : Value) : Kept a (w.setCell p u) := Below.setCell h hp u
theorem Kept.setAt {a w : World} (h : Kept a w) {b i : Nat} (hb : a.heap.size ≤ b) (u : Value) : Kept a (w.setCell ⟨b, i, none⟩ u) := h.setCell hb u
theorem ret_bool {a b : Bool} (h : a = b) : Ending.returned (.bool a) = .returned (.bool b) := by rw [h]
theorem ret_int {a b : Int} (h : a = b) : Ending.returned (.int .i64 a) = .returned (.int .i64 b) := by rw [h]
theorem quiet_same {P : Program} {f : FuncId} {args : Array Value} {w : World} {n : Nat} {v : Value}
    (h : Calls P f args (w.drewN n) fun e w' => e = .returned v ∧ w.drewN n = w') : Calls P f args (w.drewN n) fun e w'' => e = .returned v ∧ ∃ m, w'' = w.drewN m :=
  h.mono fun _ _ ⟨he, hm⟩ => ⟨he, n, hm.symm⟩
/-- At most draws. -/
def Drew (w w' : World) : Prop := ∃ m, w' = w.drewN m
theorem Drew.kept {w w' : World} (h : Drew w w') : Kept w w' := by obtain ⟨m, rfl⟩ := h; exact (Kept.refl w).drewN m
theorem Drew.refl (w : World) : Drew w w := ⟨0, rfl⟩
theorem Drew.drew {w w' : World} (h : Drew w w') : Drew w w'.drew := by
  obtain ⟨m, rfl⟩ := h; exact ⟨m + 1, rfl⟩
theorem Drew.drewN {w w' : World} (h : Drew w w') (n : Nat) : Drew w (w'.drewN n) := by
  obtain ⟨m, rfl⟩ := h; exact ⟨m + n, by rw [World.drewN_drewN]⟩
theorem Drew.trans {a b c : World} (h : Drew a b) (k : Drew b c) : Drew a c := by
  obtain ⟨m, rfl⟩ := k; exact h.drewN m
theorem quiet_drew {P : Program} {f : FuncId} {args : Array Value} {w : World} {n : Nat} {v : Value}
    (h : Calls P f args (w.drewN n) fun e w' => e = .returned v ∧ Drew (w.drewN n) w') : Calls P f args (w.drewN n) fun e w'' => e = .returned v ∧ ∃ m, w'' = w.drewN m :=
  h.mono fun _ _ ⟨he, m, hm⟩ => ⟨he, n + m, by rw [hm, World.drewN_drewN]⟩
theorem emod_bd (a b : Int) (hb : 0 < b) : 0 ≤ a % b ∧ a % b < b := ⟨Int.emod_nonneg _ (by omega), Int.emod_lt_of_pos _ hb⟩

/-- A row that reads as a list. -/
structure Rd (w : World) (p off : Nat) (l : List Int) : Prop where
  lt : p < w.heap.size
  cell : ∀ j (h : j < l.length), w.cell? ⟨p, off + j, none⟩ = some (.int .i64 l[j])
theorem Rd.later {w w' : World} {p off : Nat} {l : List Int} (h : Rd w p off l) (k : Kept w w') : Rd w' p off l :=
  ⟨Nat.lt_of_lt_of_le h.lt k.le, fun j hj => (k.rd.1 _ _ h.lt).trans (h.cell j hj)⟩
/-- A row of the call's own: it may be written. -/
structure Own (w : World) (p : Nat) (l : List Int) : Prop where
  lt : p < w.heap.size
  cell : ∀ j (h : j < l.length), w.cell? ⟨p, j, none⟩ = some (.int .i64 l[j])
  free : ∀ j, j < l.length → w.frozen? ⟨p, j, none⟩ = false
theorem Own.rd {w : World} {p : Nat} {l : List Int} (h : Own w p l) : Rd w p 0 l := ⟨h.lt, fun j hj => by rw [Nat.zero_add]; exact h.cell j hj⟩
theorem Own.later {w w' : World} {p : Nat} {l : List Int} (h : Own w p l) (k : Kept w w') : Own w' p l :=
  ⟨Nat.lt_of_lt_of_le h.lt k.le, fun j hj => (k.rd.1 _ _ h.lt).trans (h.cell j hj), fun j hj => (k.rd.2 _ _ h.lt).trans (h.free j hj)⟩
theorem Own.drewN {w : World} {p : Nat} {l : List Int} (h : Own w p l) (m : Nat) : Own (w.drewN m) p l := ⟨h.lt, h.cell, h.free⟩
theorem Own.drew {w : World} {p : Nat} {l : List Int} (h : Own w p l) : Own w.drew p l := ⟨h.lt, h.cell, h.free⟩
theorem Rd.drewN {w : World} {p off : Nat} {l : List Int} (h : Rd w p off l) (m : Nat) : Rd (w.drewN m) p off l := ⟨h.lt, h.cell⟩
/-- One place written. -/
theorem Own.set {w : World} {p : Nat} {l : List Int} (h : Own w p l) (i : Nat) (v : Int) (hi : i < l.length) : Own (w.setCell ⟨p, i, none⟩ (.int .i64 v)) p (l.set i v) := by
  have hc := h.cell i hi
  refine ⟨by simpa using h.lt, fun j hj => ?_, fun j hj => ?_⟩
  · rw [List.length_set] at hj
    have hcj := h.cell j hj
    by_cases e : i = j
    · subst e
      rw [List.getElem_set_self]
      go_simp
    · rw [List.getElem_set_ne e]
      have e' : j ≠ i := fun z => e z.symm
      go_simp
  · rw [List.length_set] at hj
    have hf := h.free j hj
    go_simp
/-- .. and another row beside it. -/
theorem Rd.other {w : World} {p off r i : Nat} {l : List Int} {v : Value} (h : Rd w p off l) (hr : r ≠ p) : Rd (w.setCell ⟨r, i, none⟩ v) p off l := by
  refine ⟨by simpa using h.lt, fun j hj => ?_⟩
  have hc := h.cell j hj
  have hr' : p ≠ r := fun e => hr e.symm
  go_simp
theorem Own.other {w : World} {p r i : Nat} {l : List Int} {v : Value} (h : Own w p l) (hr : r ≠ p) : Own (w.setCell ⟨r, i, none⟩ v) p l := by
  have hr' : p ≠ r := fun e => hr e.symm
  refine ⟨by simpa using h.lt, fun j hj => ?_, fun j hj => ?_⟩
  · have hc := h.cell j hj
    go_simp
  · have hf := h.free j hj
    go_simp
/-- A row laid as its numbers. -/
theorem Own.lit {w : World} {l : List Int} {t : TypeId} {p : Nat} (hp : w.heap.size = p) : Own (w.alloc (.cells (l.map (Value.int .i64)).toArray t)) p l := by
  subst hp
  refine ⟨by simp, fun j hj => ?_, fun j hj => ?_⟩
  · simp [hj]
  · simp

/-! A row that is made. -/
/-- So many cells of noughts. -/
def zs (n : Nat) : Array Value := madeCells #[.int .i64 0] n
theorem zs_cell (n j : Nat) (h : j < n) : (zs n)[j]? = some (.int .i64 0) := by
  unfold zs madeCells
  simp [h, Nat.mod_one]
theorem zs_size (n : Nat) : (zs n).size = n := size_madeCells _ _
theorem Own.made {w : World} {n p : Nat} {t : TypeId} (hp : w.heap.size = p) : Own (w.alloc (.cells (zs n) t)) p (List.replicate n 0) := by
  subst hp
  refine ⟨by simp, fun j hj => ?_, fun j hj => ?_⟩
  · have hj' : j < n := by simpa using hj
    simp [zs_cell n j hj']
  · simp
theorem infoInt : (Try.prog.info? 3).map (fun i => (i.zero, i.size, i.bytes)) = some (some (.int .i64 0), 1, 8) := by kernel_rfl
theorem make_ints (n : Nat) (hn : n ≤ 1000000) (w : World) :
    (Instr.makeSlice 23 (.int .i64 (n : Int)) (.int .i64 (n : Int))).run Try.prog w = .ok (.slice (some ⟨w.heap.size, 0, none⟩) n n) (w.alloc (.cells (zs n) 3)) := by
  obtain ⟨i0, hi, hz0, hz1, hz2⟩ := info_parts infoInt
  have h := run_make (P := Try.prog) w 23 3 i0 (.int .i64 0) Try.underlying23 hi hz0 .i64 .i64 n n (by omega) (Int.le_refl _) (by rw [hz2]; omega) (by omega)
  rw [hz1] at h
  simpa [zs, Value.cells] using h

end Go.Proofs.Ytdgiljndoeldcaa
