/-
  The state of the law behind its calls: nine rows that lie apart, the list of them, their clones. No condition but those that each theorem names.
-/
import Derived.Test.YtcfcbglnmhoknabDoorOWalkE
namespace Go.Proofs.YtcfcbglnmhoknabDoor
open Go.RowKit Go.WideShapes

theorem lt9 (j : Nat) (h : j < 9) : j = 0 ∨ j = 1 ∨ j = 2 ∨ j = 3 ∨ j = 4 ∨ j = 5 ∨ j = 6 ∨ j = 7 ∨ j = 8 := by omega
/-- Nine rows behind block B0 and before block B8; the list of them at block p. -/
structure Nine (B0 B8 : Nat) (w : World) (p : Nat) (V : Nat → Value) (N : Nat → Nat) (G : Nat → Nat → Int) : Prop where
  fam : Fam B0 w V N G 9
  lt : p < w.heap.size
  le : B8 ≤ p
  cell : ∀ j, j < 9 → w.cell? ⟨p, j, none⟩ = some (V j)
  old : ∀ j, j < 9 → ∀ b, (V j).ownBlock = some b → b < B8
theorem nine_of {B0 : Nat} {w8 w : World} {V : Nat → Value} {N : Nat → Nat} {G : Nat → Nat → Int} {t : TypeId} {v0 v1 v2 v3 v4 v5 v6 v7 v8 : Value} (h : Fam B0 w8 V N G 9) (k : Kept w8 w)
    (e0 : V 0 = v0) (e1 : V 1 = v1) (e2 : V 2 = v2) (e3 : V 3 = v3) (e4 : V 4 = v4) (e5 : V 5 = v5) (e6 : V 6 = v6) (e7 : V 7 = v7) (e8 : V 8 = v8) :
    ∃ V N G, Nine B0 w8.heap.size (w.alloc (.cells #[v0, v1, v2, v3, v4, v5, v6, v7, v8] t)) w.heap.size V N G := by
  refine ⟨V, N, G, (h.later k).later ((Kept.refl w).alloc _), by simp, k.le, fun j hj => ?_, fun j hj b e => ((h.sp j hj).block e).2⟩
  rcases lt9 j hj with rfl | rfl | rfl | rfl | rfl | rfl | rfl | rfl | rfl
  · rw [e0]; simp
  · rw [e1]; simp
  · rw [e2]; simp
  · rw [e3]; simp
  · rw [e4]; simp
  · rw [e5]; simp
  · rw [e6]; simp
  · rw [e7]; simp
  · rw [e8]; simp
theorem Nine.later {B0 B8 p : Nat} {w w' : World} {V : Nat → Value} {N : Nat → Nat} {G : Nat → Nat → Int} (h : Nine B0 B8 w p V N G) (k : Kept w w') : Nine B0 B8 w' p V N G :=
  ⟨h.fam.later k, Nat.lt_of_lt_of_le h.lt k.le, h.le, fun j hj => (k.rd.1 _ _ h.lt).trans (h.cell j hj), h.old⟩
/-- The state in the second loop: rows k .. 8 are still as they were, and all clones. -/
structure St (B0 B8 B1 : Nat) (w : World) (k p q : Nat) (V X : Nat → Value) (N : Nat → Nat) (G : Nat → Nat → Int) (vr vs : Value) (rn : Nat) (R : Rw) : Prop where
  v : ∀ j, k ≤ j → j < 9 → Sp B0 w (V j) (N j) (G j)
  x : ∀ j, j < 9 → Sp B1 w (X j) (N j) (G j)
  lp : p < w.heap.size
  cp : ∀ j, j < 9 → w.cell? ⟨p, j, none⟩ = some (V j)
  lq : q < w.heap.size
  cq : ∀ j, j < 9 → w.cell? ⟨q, j, none⟩ = some (X j)
  r : RGr B8 w vr rn R
  s : RGr B1 w vs rn R
theorem St.grown {B0 B8 B1 k k' p q rn : Nat} {w w' : World} {V X : Nat → Value} {N : Nat → Nat} {G : Nat → Nat → Int} {vr vs : Value} {R : Rw} {row : Option Nat} (h : St B0 B8 B1 w k p q V X N G vr vs rn R) (g : w.grownBy w' row) (hk : k ≤ k')
    (hb : ∀ b, row = some b → b < B8 ∧ ∀ j, k' ≤ j → j < 9 → (V j).ownBlock ≠ some b) (h1 : B8 ≤ p) (h2 : p < B1) (h3 : B1 ≤ q) : St B0 B8 B1 w' k' p q V X N G vr vs rn R := by
  have far : ∀ (u : Value), (∀ b, u.ownBlock = some b → B8 ≤ b) → u.ownBlock = none ∨ u.ownBlock ≠ row := by
    intro u hu
    cases e : u.ownBlock with
    | none => exact .inl rfl
    | some b => exact .inr fun z => by have := hu b e; have := (hb b z.symm).1; omega
  have cellp : ∀ c, B8 ≤ c → c < w.heap.size → ∀ j, w'.cell? ⟨c, j, none⟩ = w.cell? ⟨c, j, none⟩ := fun c hc hl j =>
    World.cell?_of_block (g.block c hl (fun z => by have := (hb c z.symm).1; omega))
  refine ⟨fun j h4 h5 => (h.v j (by omega) h5).grown g ?_, fun j h4 => (h.x j h4).grown g (far _ fun b e => by have := ((h.x j h4).block e).1; omega), Nat.lt_of_lt_of_le h.lp g.size, fun j hj => (cellp p h1 h.lp j).trans (h.cp j hj), Nat.lt_of_lt_of_le h.lq g.size, fun j hj => (cellp q (by omega) h.lq j).trans (h.cq j hj), h.r.grown g (far _ fun b e => (h.r.own.lt b e).1), h.s.grown g (far _ fun b e => by have := (h.s.own.lt b e).1; omega)⟩
  cases e : (V j).ownBlock with
  | none => exact .inl rfl
  | some b => exact .inr fun z => (hb b z.symm).2 j h4 h5 e
theorem St.later {B0 B8 B1 k p q rn : Nat} {w w' : World} {V X : Nat → Value} {N : Nat → Nat} {G : Nat → Nat → Int} {vr vs : Value} {R : Rw} (h : St B0 B8 B1 w k p q V X N G vr vs rn R) (g : Kept w w') (h1 : B8 ≤ p) (h2 : p < B1) (h3 : B1 ≤ q) : St B0 B8 B1 w' k p q V X N G vr vs rn R :=
  h.grown g.grownBy (Nat.le_refl _) (fun b e => by cases e) h1 h2 h3
theorem Kept.grown {A w w' : World} {row : Option Nat} (k : Kept A w) (g : w.grownBy w' row) (h : ∀ b, row = some b → A.heap.size ≤ b) : Kept A w' := Below.grown k g k.size h
theorem apart_blocks {u v : Value} (h : ∀ b, u.ownBlock = some b → v.ownBlock = some b → False) : u.ownBlock = none ∨ u.ownBlock ≠ v.ownBlock := by
  cases e : u.ownBlock with
  | none => exact .inl rfl
  | some b => exact .inr fun z => h b e z.symm
theorem RGr.mono {B B' n : Nat} {w : World} {v : Value} {R : Rw} (h : RGr B w v n R) (k : B' ≤ B) : RGr B' w v n R := by
  refine ⟨h.own.1, ?_⟩
  rcases h.own.2 with h | ⟨b, cap, cur, e, hb, hr⟩
  · exact .inl h
  · exact .inr ⟨b, cap, cur, e, by omega, hr⟩

end Go.Proofs.YtcfcbglnmhoknabDoor
