/-
  A row that grows by append: what it owns, and that a second one beside it stays. Condition: none.
-/
import Derived.Test.YtjfflnkocajkeaaDoorLBase
import Derived.ArgAppend
namespace Go.Proofs.YtjfflnkocajkeaaDoor
open Go.RowKit Go.WideShapes

/-- The row of the call's own, that grows. -/
structure Gr (B : Nat) (w : World) (v : Value) (n : Nat) (g : Nat → Int) : Prop where
  own : w.ownsRow B 3 1 v n ((tab n g).map (Value.int .i64))
theorem tab_succ (n : Nat) (g : Nat → Int) : tab (n + 1) g = tab n g ++ [g n] := by simp [tab, List.range_succ]
theorem Gr.nil (B : Nat) (w : World) (g : Nat → Int) : Gr B w (.slice none 0 0) 0 g := ⟨World.ownsRow_nil _ _ _ _⟩
theorem Gr.congr {B : Nat} {w : World} {v : Value} {n : Nat} {g h : Nat → Int} (a : Gr B w v n g) (e : ∀ j, j < n → g j = h j) : Gr B w v n h := ⟨by rw [← tab_congr n e]; exact a.own⟩
theorem Gr.alloc {B : Nat} {w : World} {v : Value} {n : Nat} {g : Nat → Int} (a : Gr B w v n g) (o : Obj) : Gr B (w.alloc o) v n g := ⟨a.own.alloc o⟩
theorem Gr.drew {B : Nat} {w : World} {v : Value} {n : Nat} {g : Nat → Int} (a : Gr B w v n g) : Gr B w.drew v n g := ⟨a.own.drew⟩
/-- Two rows lie apart. -/
def Apart (v u : Value) : Prop := ∀ k, v.ownBlock = some k → u.ownBlock = some k → False
theorem Apart.symm {v u : Value} (h : Apart v u) : Apart u v := fun k a b => h k b a
theorem Apart.ne {v u : Value} (h : Apart v u) : u.ownBlock = none ∨ u.ownBlock ≠ v.ownBlock := by
  cases e : u.ownBlock with
  | none => exact .inl rfl
  | some k => exact .inr (fun q => h k q.symm e)
theorem Gr.kept {B : Nat} {w w' : World} {v u : Value} {n : Nat} {g : Nat → Int} (a : Gr B w u n g) (hg : w.grownBy w' v.ownBlock) (h : Apart v u) : Gr B w' u n g := ⟨a.own.kept hg h.ne⟩
/-- What is read is still there. -/
theorem Gr.below {A w w' : World} {B n : Nat} {v : Value} {g : Nat → Int} (a : Gr B w v n g) (hB : A.heap.size ≤ B) (k : Kept A w) (hg : w.grownBy w' v.ownBlock) : Kept A w' :=
  Below.grown k hg k.size (fun j e => by have := a.own.lt j e; omega)
/-- A row that has grown is an 'Arg'. -/
theorem Gr.arg {B : Nat} {w : World} {v : Value} {n : Nat} {g : Nat → Int} (a : Gr B w v n g) : ∃ ad cap, v = .slice ad n cap ∧ Arg w ad n g := by
  have h := a.own
  rcases h.2 with ⟨rfl, rfl⟩ | ⟨b, cap, cur, rfl, hb, hh, hn, hm, hs, ht⟩
  · exact ⟨none, 0, rfl, .inl rfl⟩
  · refine ⟨_, cap, rfl, .inr ⟨b, 0, rfl, ?_, ?_⟩⟩
    · exact (Array.getElem?_eq_some_iff.1 hh).1
    · intro j hj
      have := h.cells (g := b) rfl j (.int .i64 ((tab n g)[j])) (by simp [List.getElem?_map, List.getElem?_eq_getElem hj])
      rw [add_plain] at this
      exact this

/-- It lies where it lay, or in a new block. -/
def Moved (w : World) (v v' : Value) : Prop := v'.ownBlock = v.ownBlock ∨ ∃ k, v'.ownBlock = some k ∧ w.heap.size ≤ k
theorem Apart.moved {B n : Nat} {w : World} {v v' u : Value} {g : Nat → Int} (h : Apart v u) (m : Moved w v v') (a : Gr B w u n g) : Apart v' u := by
  intro k e1 e2
  rcases m with e | ⟨j, e, hj⟩
  · exact h k (e ▸ e1) e2
  · have := a.own.lt k e2
    rw [e] at e1
    obtain rfl : j = k := by simpa using e1
    omega
theorem moved_of {w w' : World} {v v' : Value} {e : TypeId} {size m : Nat} {xs : List Value} (h : w'.ownsRow w.heap.size e size v' m xs) (hn : v' ≠ .slice none 0 0) : Moved w v v' := by
  rcases h.2 with ⟨rfl, _⟩ | ⟨b, cap, cur, rfl, hb, _⟩
  · exact absurd rfl hn
  · exact .inr ⟨b, rfl, hb⟩
theorem run_append_one (w : World) {B n hb : Nat} {v : Value} {g : Nat → Int} {z : Int} (ty : TypeId) (a : Gr B w v n g) (hc : w.cell? ⟨hb, 0, none⟩ = some (.int .i64 z)) (hn : n + 1 ≤ 1000000) (hB : B ≤ w.heap.size) :
    ∃ v' w', (Builtin.append_ #[41, 41] ty #[v, .slice (some ⟨hb, 0, none⟩) 1 1]).run Tryd.prog w = .ok v' w' ∧ Gr B w' v' (n + 1) (up g n z) ∧ w.grownBy w' v.ownBlock ∧ Moved w v v' := by
  obtain ⟨i0, hi, hz0, hz1, hz2⟩ := info_parts infoInt
  have h63 : n + 1 ≤ maxLen := by unfold maxLen; omega
  have hnews : ∀ (j : Nat) (u : Value), [Value.int .i64 z][j]? = some u → w.cell? ((⟨hb, 0, none⟩ : Addr).add j) = some u := by
    intro j u hj
    match j, hj with
    | 0, hj => simp at hj; subst hj; simpa [Addr.add] using hc
  have h1 : ∀ u ∈ [Value.int .i64 z], u.oneCell' = true := by intro u hu; simp at hu; subst hu; rfl
  obtain ⟨v', w', hr, h2, h3, h4⟩ := run_append_own (P := Tryd.prog) w B 41 ty 3 i0 (.int .i64 0) 1 8 Tryd.underlying41 hi hz0 hz1 hz2 rfl (by decide) v n _ a.own ⟨hb, 0, none⟩ 1 1 [.int .i64 z] rfl hnews h1 h63 (by omega) hB
  have nn : v' ≠ .slice none 0 0 := fun e => by have := (h4.1 e).2; omega
  refine ⟨v', w', hr, ⟨?_⟩, h3, ?_⟩
  · rw [tab_succ, List.map_append, tab_congr n (h := g) (fun j hj => up_ne g z (by omega)), up_same]
    exact h2
  · rcases a.own.2 with ⟨rfl, rfl⟩ | ⟨b, cap, cur, rfl, hb0, hh, hnc, hcm, hcs, ht⟩
    · obtain ⟨v2, w2, hr2, k2, _, _⟩ := run_append_own (P := Tryd.prog) w w.heap.size 41 ty 3 i0 (.int .i64 0) 1 8 Tryd.underlying41 hi hz0 hz1 hz2 rfl (by decide) (.slice none 0 0) 0 [] (World.ownsRow_nil _ _ _ _) ⟨hb, 0, none⟩ 1 1 [.int .i64 z] rfl hnews h1 h63 (by omega) (Nat.le_refl _)
      rw [hr] at hr2
      obtain ⟨rfl, rfl⟩ : v' = v2 ∧ w' = w2 := by simpa using hr2
      exact moved_of k2 nn
    · by_cases room : n + 1 ≤ cap
      · have hr2 := run_append_room (P := Tryd.prog) w 41 ty 3 i0 Tryd.underlying41 hi b n cap cur hh ⟨hb, 0, none⟩ 1 1 [.int .i64 z] (by rw [hz1]; rfl) hnews h1 room (by rw [hz1, hcs]; simp; omega)
        rw [hr] at hr2
        have e : v' = .slice (some ⟨b, 0, none⟩) (n + 1) cap := by injection hr2
        subst e
        exact .inl rfl
      · obtain ⟨v2, w2, hr2, k2, _⟩ := run_append_arg_grows (P := Tryd.prog) w 41 ty 3 i0 (.int .i64 0) 1 8 Tryd.underlying41 hi hz0 hz1 hz2 rfl (by decide) ⟨b, 0, none⟩ n cap _ a.own.1 (a.own.cells (g := b) rfl) ⟨hb, 0, none⟩ 1 1 [.int .i64 z] rfl hnews (by omega) h63 (by omega)
        rw [hr] at hr2
        obtain ⟨rfl, rfl⟩ : v' = v2 ∧ w' = w2 := by simpa using hr2
        exact moved_of k2 nn
/-- One number appended. -/
theorem app_one {w : World} {ops : Array Oper} {rest : List Oper} {o : Oper} {a : Act} {Q : Exit → Act → World → Prop} (hgd : o.guard = none) (s x : Operand)
    (ho : o.op = .call { callee := .builtin .append, args := #[s, x], argTypes := #[41, 41] }) {B n hb : Nat} {v : Value} {g : Nat → Int} {z : Int}
    (hs : a.eval s = v) (hx : a.eval x = .slice (some ⟨hb, 0, none⟩) 1 1) (ha : Gr B w v n g) (hc : w.cell? ⟨hb, 0, none⟩ = some (.int .i64 z)) (hn : n + 1 ≤ 1000000) (hB : B ≤ w.heap.size)
    (h : ∀ v' w', Gr B w' v' (n + 1) (up g n z) → w.grownBy w' v.ownBlock → Moved w v v' → wpList Tryd.prog ops Q rest (a.put o.dst v') w') : wpList Tryd.prog ops Q (o :: rest) a w := by
  refine wpList_plain hgd fun _ hK => ?_
  obtain ⟨v', w', hr, h2, h3, h4⟩ := run_append_one w o.type ha hc hn hB
  unfold Oper.wp execOp
  simp only [ho, resolve, invoke, builtin, Sem.run_bind, Sem.run_pure, Result.andThen_ok, List.map_toArray, List.map_cons, List.map_nil, hs, hx, hr]
  exact hK _ _ (h v' w' h2 h3 h4)
end Go.Proofs.YtjfflnkocajkeaaDoor
