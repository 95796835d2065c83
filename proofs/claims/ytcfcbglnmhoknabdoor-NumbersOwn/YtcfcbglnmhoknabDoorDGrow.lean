/-
  slices.Clone of a row of whole numbers; what is appended to it. No condition but those that each theorem names.
-/
import Derived.Test.YtcfcbglnmhoknabDoorDWalkB
import Derived.Laws.OwnMore
namespace Go.Proofs.YtcfcbglnmhoknabDoor
open Go.RowKit Go.WideShapes

/-- A row that grows may be written. -/
theorem Gr.toOwn {B q n c : Nat} {w : World} {g : Nat → Int} (h : Gr B w (.slice (some ⟨q, 0, none⟩) n c) n g) : Own w q (tab n g) := by
  refine ⟨(h.own.lt q rfl).2, fun j hj => ?_, fun j _ => h.own.frozenAt j⟩
  have hj' : j < n := by rw [tab_len] at hj; exact hj
  rw [h.own.cellAt j (by omega), List.getElem?_map, List.getElem?_eq_getElem hj]
  rfl
theorem Gr.at1 {B n : Nat} {w : World} {v : Value} {g : Nat → Int} (h : Gr B w v n g) (n1 : 1 ≤ n) : ∃ q c, v = .slice (some ⟨q, 0, none⟩) n c ∧ B ≤ q := by
  rcases h.own.2 with ⟨_, h0⟩ | ⟨q, c, _, e, hb, _⟩
  · omega
  · exact ⟨q, c, e, hb⟩
theorem run_append_row (w : World) {B m hp off c : Nat} {v : Value} {g h : Nat → Int} (ty : TypeId) (a : Gr B w v 0 g) (hR : Rd w hp off (tab m h)) (hm : m ≤ 1000000) (hB : B ≤ w.heap.size) :
    ∃ v' w', (Builtin.append_ #[25, 25] ty #[v, .slice (some ⟨hp, off, none⟩) m c]).run Tryd.prog w = .ok v' w' ∧ Gr B w' v' m h ∧ w.grownBy w' v.ownBlock := by
  obtain ⟨i0, hi, hz0, hz1, hz2⟩ := info_parts infoInt
  have h63 : 0 + m ≤ maxLen := by unfold maxLen; omega
  have hnews : ∀ (j : Nat) (u : Value), ((tab m h).map (Value.int .i64))[j]? = some u → w.cell? ((⟨hp, off, none⟩ : Addr).add j) = some u := by
    intro j u hj
    have hl : j < (tab m h).length := by
      rw [List.getElem?_eq_some_iff] at hj; obtain ⟨q, _⟩ := hj; simpa using q
    rw [List.getElem?_map, List.getElem?_eq_getElem hl] at hj
    have := hR.cell j hl
    rw [add_plain, this]; exact hj
  have h1 : ∀ u ∈ (tab m h).map (Value.int .i64), u.oneCell' = true := by
    intro u hu
    rw [List.mem_map] at hu
    obtain ⟨z, _, rfl⟩ := hu
    rfl
  obtain ⟨v', w', hr, h2, h3, _⟩ := run_append_own (P := Tryd.prog) w B 25 ty 3 i0 (.int .i64 0) 1 8 Tryd.underlying25 hi hz0 hz1 hz2 rfl (by decide) v 0 _ a.own ⟨hp, off, none⟩ m c _ (by rw [List.length_map, tab_len]; omega) hnews h1 h63 (by omega) hB
  refine ⟨v', w', hr, ⟨?_⟩, h3⟩
  rw [Nat.zero_add] at h2
  exact h2
/-- A row appended to nothing. -/
theorem app_row {w : World} {ops : Array Oper} {rest : List Oper} {o : Oper} {a : Act} {Q : Exit → Act → World → Prop} (hgd : o.guard = none) (s x : Operand)
    (ho : o.op = .call { callee := .builtin .append, args := #[s, x], argTypes := #[25, 25] }) {B m hp off c : Nat} {v : Value} {g h : Nat → Int}
    (hs : a.eval s = v) (hx : a.eval x = .slice (some ⟨hp, off, none⟩) m c) (ha : Gr B w v 0 g) (hR : Rd w hp off (tab m h)) (hm : m ≤ 1000000) (hB : B ≤ w.heap.size)
    (k : ∀ v' w', Gr B w' v' m h → w.grownBy w' v.ownBlock → wpList Tryd.prog ops Q rest (a.put o.dst v') w') : wpList Tryd.prog ops Q (o :: rest) a w := by
  refine wpList_plain hgd fun _ hK => ?_
  obtain ⟨v', w', hr, h2, h3⟩ := run_append_row (c := c) w o.type ha hR hm hB
  unfold Oper.wp execOp
  simp only [ho, resolve, invoke, builtin, Sem.run_bind, Sem.run_pure, Result.andThen_ok, List.map_toArray, List.map_cons, List.map_nil, hs, hx, hr]
  exact hK _ _ (k v' w' h2 h3)
/-- One number appended, behind a guard that is met. -/
theorem app_oneG {w : World} {ops : Array Oper} {rest : List Oper} {o : Oper} {a : Act} {Q : Exit → Act → World → Prop} (hgd : Region.wanted o (yielded ops a.tmps) = true) (s x : Operand)
    (ho : o.op = .call { callee := .builtin .append, args := #[s, x], argTypes := #[25, 25] }) {B n hb : Nat} {v : Value} {g : Nat → Int} {z : Int}
    (hs : a.eval s = v) (hx : a.eval x = .slice (some ⟨hb, 0, none⟩) 1 1) (ha : Gr B w v n g) (hc : w.cell? ⟨hb, 0, none⟩ = some (.int .i64 z)) (hn : n + 1 ≤ 1000000) (hB : B ≤ w.heap.size)
    (h : ∀ v' w', Gr B w' v' (n + 1) (up g n z) → w.grownBy w' v.ownBlock → Moved w v v' → wpList Tryd.prog ops Q rest (a.put o.dst v') w') : wpList Tryd.prog ops Q (o :: rest) a w := by
  refine wpList_step fun _ hK => ?_
  rw [if_pos hgd]
  obtain ⟨v', w', hr, h2, h3, h4⟩ := run_append_one w o.type ha hc hn hB
  unfold Oper.wp execOp
  simp only [ho, resolve, invoke, builtin, Sem.run_bind, Sem.run_pure, Result.andThen_ok, List.map_toArray, List.map_cons, List.map_nil, hs, hx, hr]
  exact hK _ _ (h v' w' h2 h3 h4)
theorem Gr.empty (w : World) (g : Nat → Int) : Gr w.heap.size (w.alloc (.cells #[] 3)) (.slice (some ⟨w.heap.size, 0, none⟩) 0 0) 0 g :=
  ⟨by have := World.ownsRow_lit (base := w.heap.size) (e := 3) (size := 1) w #[] 0 (Nat.le_refl _) (by decide) rfl
      simpa [tab] using this⟩
/-- What Clone returns. -/
def ClonePost (w : World) (n : Nat) (g : Nat → Int) (e : Ending) (w' : World) : Prop :=
  ∃ q c : Nat, w.heap.size ≤ q ∧ e = .returned (.slice (some ⟨q, 0, none⟩) n c) ∧ Gr w.heap.size w' (.slice (some ⟨q, 0, none⟩) n c) n g ∧ Kept w w'
set_option maxHeartbeats 1000000 in
theorem clone_any (p off n cap : Nat) (g : Nat → Int) (w : World) (n1 : 1 ≤ n) (hn : n ≤ 1000) (hR : Rd w p off (tab n g)) :
    Calls Tryd.prog 33 #[.slice (some ⟨p, off, none⟩) n cap] w (ClonePost w n g) := by
  have ne : ∀ w : World, (binOp .eql 25 (.slice (some ⟨p, off, none⟩) n cap) (.slice none 0 0)).run Tryd.prog w = .ok (.bool false) w := fun w => by
    rw [Lib.run_eql_slice_nil w 25 3 _ n cap 0 0 Tryd.underlying25]; rfl
  have hE := Gr.empty w g
  have hK := (Kept.refl w).alloc (.cells #[] 3)
  have hR2 := hR.later hK
  clear hR
  go_enter Tryd.func33, Tryd.ntmps33
  go_wp2_with (at_builtin; refine app_row rfl _ _ rfl (B := w.heap.size) rfl rfl hE hR2 (by omega) (by have := hK.size; omega) ?_)
  intro v' w1 hG hgrow
  have hK1 := hE.below (Nat.le_refl _) hK hgrow
  obtain ⟨q, c, rfl, hq⟩ := hG.at1 n1
  clear hE hK hR2 hgrow
  go_wp2
  go_ret
  exact ⟨q, c, hq, rfl, hG, hK1⟩

end Go.Proofs.YtcfcbglnmhoknabDoor
