/-
  Families of rows that lie apart, and a row of rows that grows by append. No condition but those that each theorem names.
-/
import Derived.Test.YtcfcbglnmhoknabDoorOWalkC
namespace Go.Proofs.YtcfcbglnmhoknabDoor
open Go.RowKit Go.WideShapes

def upd {α : Type} (f : Nat → α) (m : Nat) (x : α) : Nat → α := fun j => if j = m then x else f j
theorem upd_same {α : Type} (f : Nat → α) (m : Nat) (x : α) : upd f m x m = x := by simp [upd]
theorem upd_ne {α : Type} (f : Nat → α) {m j : Nat} (x : α) (h : j ≠ m) : upd f m x j = f j := by simp [upd, h]
theorem Sp.form {B n : Nat} {w : World} {v : Value} {g : Nat → Int} (h : Sp B w v n g) : ∃ a c, v = .slice a n c := by
  rcases h with ⟨rfl, rfl⟩ | ⟨p, c, rfl, _⟩
  · exact ⟨none, 0, rfl⟩
  · exact ⟨_, c, rfl⟩
theorem Sp.mono {B B' n : Nat} {w : World} {v : Value} {g : Nat → Int} (h : Sp B w v n g) (k : B' ≤ B) : Sp B' w v n g := by
  rcases h with h | ⟨p, c, rfl, h1, h2⟩
  · exact .inl h
  · exact .inr ⟨p, c, rfl, by omega, h2⟩
theorem Sp.rdn {B n c : Nat} {w : World} {a : Option Addr} {g : Nat → Int} (h : Sp B w (.slice a n c) n g) : RdN w a n g := by
  rcases h with ⟨e, rfl⟩ | ⟨p, c', e, _, _, _, _, h5, _⟩
  · exact .inl rfl
  · injection e with e1 _ _
    exact .inr ⟨p, 0, e1, fun j hj => by rw [Nat.zero_add]; exact h5 j hj⟩
/-- Rows that lie apart, all behind block B. -/
structure Fam (B : Nat) (w : World) (V : Nat → Value) (N : Nat → Nat) (G : Nat → Nat → Int) (m : Nat) : Prop where
  sp : ∀ j, j < m → Sp B w (V j) (N j) (G j)
  n40 : ∀ j, j < m → N j ≤ 40
  ap : ∀ i j, i < j → j < m → ∀ b, (V i).ownBlock = some b → (V j).ownBlock = some b → False
theorem Fam.nil (B : Nat) (w : World) (V : Nat → Value) (N : Nat → Nat) (G : Nat → Nat → Int) : Fam B w V N G 0 := ⟨fun j h => by omega, fun j h => by omega, fun i j _ h => by omega⟩
theorem Fam.later {B m : Nat} {w w' : World} {V : Nat → Value} {N : Nat → Nat} {G : Nat → Nat → Int} (h : Fam B w V N G m) (k : Kept w w') : Fam B w' V N G m :=
  ⟨fun j hj => (h.sp j hj).later k, h.n40, h.ap⟩
theorem Fam.add {B m n : Nat} {w w' : World} {V : Nat → Value} {N : Nat → Nat} {G : Nat → Nat → Int} {v : Value} {g : Nat → Int} (h : Fam B w V N G m) (hs : Sp w.heap.size w' v n g) (hn : n ≤ 40) (k : Kept w w') (hB : B ≤ w.heap.size) :
    Fam B w' (upd V m v) (upd N m n) (upd G m g) (m + 1) := by
  refine ⟨fun j hj => ?_, fun j hj => ?_, fun i j hij hj b e1 e2 => ?_⟩
  · by_cases e : j = m
    · subst e; rw [upd_same, upd_same, upd_same]; exact hs.mono hB
    · rw [upd_ne _ _ e, upd_ne _ _ e, upd_ne _ _ e]; exact (h.sp j (by omega)).later k
  · by_cases e : j = m
    · subst e; rw [upd_same]; exact hn
    · rw [upd_ne _ _ e]; exact h.n40 j (by omega)
  · rw [upd_ne _ _ (show i ≠ m by omega)] at e1
    by_cases e : j = m
    · subst e
      rw [upd_same] at e2
      have := ((h.sp i (by omega)).block e1).2
      have := (hs.block e2).1
      omega
    · rw [upd_ne _ _ e] at e2
      exact h.ap i j hij (by omega) b e1 e2

/-- A row of rows that grows. -/
def vals (n : Nat) (W : Nat → Value) : List Value := (List.range n).map W
theorem vals_len (n : Nat) (W : Nat → Value) : (vals n W).length = n := by simp [vals]
theorem vals_succ (n : Nat) (W : Nat → Value) : vals (n + 1) W = vals n W ++ [W n] := by simp [vals, List.range_succ]
theorem vals_congr (n : Nat) {W X : Nat → Value} (e : ∀ j, j < n → W j = X j) : vals n W = vals n X := by
  unfold vals; apply List.map_congr_left; intro j hj; exact e j (by simpa using hj)
structure SGr (B : Nat) (w : World) (v : Value) (n : Nat) (W : Nat → Value) : Prop where
  own : w.ownsRow B 25 1 v n (vals n W)
theorem SGr.nil (B : Nat) (w : World) (W : Nat → Value) : SGr B w (.slice none 0 0) 0 W := ⟨World.ownsRow_nil _ _ _ _⟩
theorem SGr.alloc {B n : Nat} {w : World} {v : Value} {W : Nat → Value} (a : SGr B w v n W) (o : Obj) : SGr B (w.alloc o) v n W := ⟨a.own.alloc o⟩
theorem SGr.grown {B n : Nat} {w w' : World} {v : Value} {W : Nat → Value} {row : Option Nat} (h : SGr B w v n W) (k : w.grownBy w' row) (hne : v.ownBlock = none ∨ v.ownBlock ≠ row) : SGr B w' v n W := ⟨h.own.kept k hne⟩
theorem SGr.later {B n : Nat} {w w' : World} {v : Value} {W : Nat → Value} (a : SGr B w v n W) (k : Kept w w') : SGr B w' v n W := by
  refine a.grown k.grownBy ?_
  cases e : v.ownBlock
  · exact .inl rfl
  · exact .inr (by simp)
theorem SGr.form {B n : Nat} {w : World} {v : Value} {W : Nat → Value} (h : SGr B w v n W) : ∃ a c, v = .slice a n c := by
  rcases h.own.2 with ⟨e, h0⟩ | ⟨q, c, _, e, _⟩
  · exact ⟨none, 0, by rw [e, h0]⟩
  · exact ⟨_, c, e⟩
theorem SGr.at {B n : Nat} {w : World} {v : Value} {W : Nat → Value} (h : SGr B w v n W) (n1 : 1 ≤ n) : ∃ q c, v = .slice (some ⟨q, 0, none⟩) n c ∧ B ≤ q ∧ q < w.heap.size ∧ ∀ j, j < n → w.cell? ⟨q, j, none⟩ = some (W j) := by
  have h0 := h.own
  rcases h.own.2 with ⟨_, h0⟩ | ⟨q, c, cur, rfl, hb, hh, _⟩
  · omega
  · refine ⟨q, c, rfl, hb, (Array.getElem?_eq_some_iff.1 hh).1, fun j hj => ?_⟩
    rw [h0.cellAt j (by omega)]
    simp [vals, hj]
theorem infoSl : (Tryd.prog.info? 25).map (fun i => (i.zero, i.size, i.bytes)) = some (some (.slice none 0 0), 1, 24) := by kernel_rfl
theorem run_sappend (w : World) {B n hb : Nat} {v : Value} {W : Nat → Value} {z : Value} (ty : TypeId) (a : SGr B w v n W) (hz1 : z.oneCell' = true) (hc : w.cell? ⟨hb, 0, none⟩ = some z) (hn : n + 1 ≤ 1000000) (hB : B ≤ w.heap.size) :
    ∃ v' w', (Builtin.append_ #[51, 51] ty #[v, .slice (some ⟨hb, 0, none⟩) 1 1]).run Tryd.prog w = .ok v' w' ∧ SGr B w' v' (n + 1) (upd W n z) ∧ w.grownBy w' v.ownBlock ∧ Moved w v v' := by
  obtain ⟨i0, hi, hz0, hs1, hz2⟩ := info_parts infoSl
  have h63 : n + 1 ≤ maxLen := by unfold maxLen; omega
  have hnews : ∀ (j : Nat) (u : Value), [z][j]? = some u → w.cell? ((⟨hb, 0, none⟩ : Addr).add j) = some u := by
    intro j u hj
    match j, hj with
    | 0, hj => simp at hj; subst hj; simpa [Addr.add] using hc
  have h1 : ∀ u ∈ [z], u.oneCell' = true := by intro u hu; simp at hu; subst hu; exact hz1
  obtain ⟨v', w', hr, h2, h3, h4⟩ := run_append_own (P := Tryd.prog) w B 51 ty 25 i0 (.slice none 0 0) 1 24 Tryd.underlying51 hi hz0 hs1 hz2 rfl (by decide) v n _ a.own ⟨hb, 0, none⟩ 1 1 [z] rfl hnews h1 h63 (by omega) hB
  have nn : v' ≠ .slice none 0 0 := fun e => by have := (h4.1 e).2; omega
  refine ⟨v', w', hr, ⟨?_⟩, h3, ?_⟩
  · rw [vals_succ, vals_congr n (X := W) (fun j hj => upd_ne W z (by omega)), upd_same]
    exact h2
  · rcases a.own.2 with ⟨rfl, rfl⟩ | ⟨b, cap, cur, rfl, hb0, hh, hnc, hcm, hcs, ht⟩
    · obtain ⟨v2, w2, hr2, k2, _, _⟩ := run_append_own (P := Tryd.prog) w w.heap.size 51 ty 25 i0 (.slice none 0 0) 1 24 Tryd.underlying51 hi hz0 hs1 hz2 rfl (by decide) (.slice none 0 0) 0 [] (World.ownsRow_nil _ _ _ _) ⟨hb, 0, none⟩ 1 1 [z] rfl hnews h1 h63 (by omega) (Nat.le_refl _)
      rw [hr] at hr2
      obtain ⟨rfl, rfl⟩ : v' = v2 ∧ w' = w2 := by simpa using hr2
      exact moved_of k2 nn
    · by_cases room : n + 1 ≤ cap
      · have hr2 := run_append_room (P := Tryd.prog) w 51 ty 25 i0 Tryd.underlying51 hi b n cap cur hh ⟨hb, 0, none⟩ 1 1 [z] (by rw [hs1]; rfl) hnews h1 room (by rw [hs1, hcs]; simp; omega)
        rw [hr] at hr2
        have e : v' = .slice (some ⟨b, 0, none⟩) (n + 1) cap := by injection hr2
        subst e
        exact .inl rfl
      · obtain ⟨v2, w2, hr2, k2, _⟩ := run_append_arg_grows (P := Tryd.prog) w 51 ty 25 i0 (.slice none 0 0) 1 24 Tryd.underlying51 hi hz0 hs1 hz2 rfl (by decide) ⟨b, 0, none⟩ n cap _ a.own.1 (a.own.cells (g := b) rfl) ⟨hb, 0, none⟩ 1 1 [z] rfl hnews (by omega) h63 (by omega)
        rw [hr] at hr2
        obtain ⟨rfl, rfl⟩ : v' = v2 ∧ w' = w2 := by simpa using hr2
        exact moved_of k2 nn
/-- One row appended. -/
theorem sapp_one {w : World} {ops : Array Oper} {rest : List Oper} {o : Oper} {a : Act} {Q : Exit → Act → World → Prop} (hgd : o.guard = none) (s x : Operand)
    (ho : o.op = .call { callee := .builtin .append, args := #[s, x], argTypes := #[51, 51] }) {B n hb : Nat} {v z : Value} {W : Nat → Value}
    (hs : a.eval s = v) (hx : a.eval x = .slice (some ⟨hb, 0, none⟩) 1 1) (ha : SGr B w v n W) (hz : z.oneCell' = true) (hc : w.cell? ⟨hb, 0, none⟩ = some z) (hn : n + 1 ≤ 1000000) (hB : B ≤ w.heap.size)
    (h : ∀ v' w', SGr B w' v' (n + 1) (upd W n z) → w.grownBy w' v.ownBlock → Moved w v v' → wpList Tryd.prog ops Q rest (a.put o.dst v') w') : wpList Tryd.prog ops Q (o :: rest) a w := by
  refine wpList_plain hgd fun _ hK => ?_
  obtain ⟨v', w', hr, h2, h3, h4⟩ := run_sappend w o.type ha hz hc hn hB
  unfold Oper.wp execOp
  simp only [ho, resolve, invoke, builtin, Sem.run_bind, Sem.run_pure, Result.andThen_ok, List.map_toArray, List.map_cons, List.map_nil, hs, hx, hr]
  exact hK _ _ (h v' w' h2 h3 h4)

/-- The clones so far, and the row of them: each apart from it. -/
structure Cln (B : Nat) (w : World) (v : Value) (N : Nat → Nat) (G : Nat → Nat → Int) (k : Nat) (W : Nat → Value) : Prop where
  row : SGr B w v k W
  sp : ∀ j, j < k → Sp B w (W j) (N j) (G j)
  ap : ∀ j, j < k → ∀ b, v.ownBlock = some b → (W j).ownBlock = some b → False
theorem Cln.nil (B : Nat) (w : World) (N : Nat → Nat) (G : Nat → Nat → Int) (W : Nat → Value) : Cln B w (.slice none 0 0) N G 0 W := ⟨SGr.nil _ _ _, fun j h => by omega, fun j h => by omega⟩
theorem Cln.later {B k : Nat} {w w' : World} {v : Value} {N : Nat → Nat} {G : Nat → Nat → Int} {W : Nat → Value} (h : Cln B w v N G k W) (q : Kept w w') : Cln B w' v N G k W :=
  ⟨h.row.later q, fun j hj => (h.sp j hj).later q, h.ap⟩
/-- One clone more, in memory behind all that there was at w; then the row of them grows. -/
theorem Cln.add {B k : Nat} {w w1 w2 : World} {v v' z : Value} {N : Nat → Nat} {G : Nat → Nat → Int} {W : Nat → Value} (h : Cln B w v N G k W) (hz : Sp w.heap.size w1 z (N k) (G k)) (hk : Kept w w1) (hB : B ≤ w.heap.size)
    (hr : SGr B w2 v' (k + 1) (upd W k z)) (hg : w1.grownBy w2 v.ownBlock) (hm : Moved w1 v v') : Cln B w2 v' N G (k + 1) (upd W k z) := by
  have lt : ∀ b, v.ownBlock = some b → b < w.heap.size := fun b e => (h.row.own.lt b e).2
  have l1 : ∀ j, j < k → ∀ b, (W j).ownBlock = some b → b < w.heap.size := fun j hj b e => ((h.sp j hj).block e).2
  have hs := hk.size
  refine ⟨hr, fun j hj => ?_, fun j hj b e1 e2 => ?_⟩
  · by_cases e : j = k
    · subst e
      rw [upd_same]
      refine (hz.mono hB).grown hg ?_
      cases e1 : z.ownBlock with
      | none => exact .inl rfl
      | some b =>
        refine .inr fun e2 => ?_
        have := lt b e2.symm
        have := (hz.block e1).1
        omega
    · rw [upd_ne _ _ e]
      refine ((h.sp j (by omega)).later hk).grown hg ?_
      cases e1 : (W j).ownBlock with
      | none => exact .inl rfl
      | some b => exact .inr fun e2 => h.ap j (by omega) b e2.symm e1
  · have key : b < w1.heap.size ∧ (v.ownBlock = some b → False) := by
      by_cases e : j = k
      · subst e
        rw [upd_same] at e2
        have := hz.block e2
        exact ⟨this.2, fun q => by have := lt b q; omega⟩
      · rw [upd_ne _ _ e] at e2
        exact ⟨by have := l1 j (by omega) b e2; omega, fun q => h.ap j (by omega) b q e2⟩
    rcases hm with q | ⟨m, q, hm⟩
    · exact key.2 (q ▸ e1)
    · rw [e1] at q
      injection q with q
      have := key.1
      omega

end Go.Proofs.YtcfcbglnmhoknabDoor
