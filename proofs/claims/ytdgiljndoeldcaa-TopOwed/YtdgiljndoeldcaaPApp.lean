/-
  A slice appended to a row of the call's own. No condition but those that each theorem names.
-/
import Derived.Test.YtdgiljndoeldcaaPWalkE
namespace Go.Proofs.Ytdgiljndoeldcaa
open Go.RowKit Go.WideShapes
set_option linter.unusedVariables false

/-- Elements of a slice appended. -/
theorem app_qs {α : Type} (E : Jec α) (T S : TypeId) (zv : Value) (bytes : Nat) (hT : IsE E T zv bytes) (hz : zv.cells.size = E.k) (hby : bytes ≤ 1000) (hS : Try.prog.underlying S = some (.slice T)) {w : World} {ops : Array Oper} {rest : List Oper} {o : Oper} {a : Act} {Q : Exit → Act → World → Prop} (hgd : o.guard = none) (s x : Operand)
    (ho : o.op = .call { callee := .builtin .append, args := #[s, x], argTypes := #[S, S] }) {B cz : Nat} {v : Value} {l z : List α} {az : Option Addr}
    (hs : a.eval s = v) (hx : a.eval x = .slice az z.length cz) (ha : QRow E B w v l) (hZ : JArg E w az z) (h0 : az = none → cz = 0) (hn : l.length + z.length ≤ 1000000) (hB : B ≤ w.heap.size)
    (h : ∀ v' w', QRow E B w' v' (l ++ z) → w.grownBy w' v.ownBlock → MovedQ w v v' → wpList Try.prog ops Q rest (a.put o.dst v') w') : wpList Try.prog ops Q (o :: rest) a w := by
  obtain ⟨i0, hi, hz0, hz1, hz2⟩ := info_parts hT
  have h63 : l.length + z.length ≤ maxLen := by unfold maxLen; omega
  have hbb : (l.length + z.length) * bytes ≤ 140737488355328 := Nat.le_trans (Nat.mul_le_mul hn hby) (by decide)
  by_cases ze : z = []
  · -- nothing is appended
    subst ze
    have hsrc : Src Try.prog i0.size S (.slice az 0 cz) 0 [] w := by
      cases az with
      | none => rw [h0 rfl]; exact Src.ofNil w hS 0
      | some ad => exact Src.ofSlice w hS ad 0 cz [] (by simp) (fun j u hj => by simp at hj) (fun u hu => by cases hu)
    obtain ⟨a0, cap, rfl, hl1, hl2, h3⟩ := id ha
    refine wpList_plain hgd fun _ hK => ?_
    have hr := run_append_nothing (P := Try.prog) w S S o.type T i0 hS hi a0 l.length cap hl1 (.slice az 0 cz) hsrc
    unfold Oper.wp execOp
    simp only [ho, resolve, invoke, builtin, Sem.run_bind, Sem.run_pure, Result.andThen_ok, List.map_toArray, List.map_cons, List.map_nil, hs, hx, List.length_nil, hr]
    exact hK _ _ (h _ _ (by rw [List.append_nil]; exact ha) (World.grownBy.refl _ _) (.inl rfl))
  · obtain ⟨p2, off2, rfl, hR⟩ := hZ.at (j := 0) (List.length_pos_iff.2 ze)
    have hnews : ∀ (j : Nat) (u : Value), (E.cat z)[j]? = some u → w.cell? ((⟨p2, off2, none⟩ : Addr).add j) = some u := by
      intro j u hj
      rw [add_plain]; exact hR.c j u hj
    have new : ∀ v' w', w'.ownsRow w.heap.size T E.k v' (l.length + z.length) (E.cat l ++ E.cat z) → w.grownBy w' none → wpList Try.prog ops Q rest (a.put o.dst v') w' := by
      intro v' w' hown hg
      rw [← E.cat_append] at hown
      have hq : QRow E w.heap.size w' v' (l ++ z) := ownsRow_q (T := T) (by simp [ze]) (by rw [List.length_append]; exact hown)
      refine h v' w' (hq.mono hB) ((Kept.grown0 hg).grownN _) ?_
      obtain ⟨a', c', rfl, h1, h2, h3⟩ := hq
      rcases h3 with ⟨rfl, hc0⟩ | ⟨p, off, rfl, hp, hm⟩
      · rw [List.length_append] at h1
        have := List.length_pos_iff.2 ze
        omega
      · exact .inr ⟨p, rfl, hp⟩
    obtain ⟨a0, cap, rfl, hl1, hl2, h3⟩ := ha
    rcases h3 with ⟨rfl, rfl⟩ | ⟨p, off, rfl, hp, hm⟩
    · obtain rfl : l = [] := List.eq_nil_of_length_eq_zero (by omega)
      have := List.length_pos_iff.2 ze
      exact wpList_append_grows w hgd s x S ho T i0 zv E.k bytes hS hi hz0 hz1 hz2 hz E.pos none 0 0 [] hs (fun _ => ⟨rfl, rfl⟩) (by simp) (fun b hb => by cases hb) ⟨p2, off2, none⟩ z.length cz (E.cat z) hx (E.cat_len z) hnews (E.cat_all z) (by omega) h63 hbb new
    · refine wpList_append_arg w hgd s x S ho T i0 zv E.k bytes hS hi hz0 hz1 hz2 hz E.pos p off l.length cap (E.cat l) hs (E.cat_len l) (fun j u hj => hm.row.c j u hj) ⟨p2, off2, none⟩ z.length cz (E.cat z) hx (E.cat_len z) hnews (E.cat_all z) ?_ h63 hbb ?_ (fun _ => new)
      · intro hr j hj
        rw [E.cat_len] at hj
        have := hm.room (l.length * E.k + j) (by have := Nat.mul_le_mul_right E.k hr; rw [Nat.add_mul] at this; omega)
        rwa [← Nat.add_assoc] at this
      · intro hr
        have hin : ∀ j, j < (E.cat z).length → l.length * E.k + j < cap * E.k := fun j hj => by
          rw [E.cat_len] at hj
          have := Nat.mul_le_mul_right E.k hr; rw [Nat.add_mul] at this; omega
        have hroom : ∀ j, j < (E.cat z).length → (w.cell? ⟨p, off + l.length * E.k + j, none⟩).isSome = true := fun j hj => by
          have := (hm.room (l.length * E.k + j) (hin j hj)).1
          rwa [← Nat.add_assoc] at this
        have hg := grownBy_setCells p (E.cat z) (off + l.length * E.k) w
        refine h _ _ ⟨_, cap, by rw [List.length_append], by simpa using hr, hl2, .inr ⟨p, off, rfl, hp, ⟨⟨Nat.lt_of_lt_of_le hm.row.lt hg.size, fun j u hj => ?_⟩, fun j hj => ?_⟩⟩⟩ hg (.inl rfl)
        · rw [E.cat_append] at hj
          by_cases hlt : j < (E.cat l).length
          · rw [List.getElem?_append_left hlt] at hj
            rw [E.cat_len] at hlt
            rw [World.cell?_setCells_out p _ _ _ _ (fun _ _ => .inl (by simp; omega))]
            exact hm.row.c j u hj
          · rw [List.getElem?_append_right (by omega), E.cat_len] at hj
            rw [E.cat_len] at hlt
            obtain ⟨hj2, e⟩ := List.getElem?_eq_some_iff.1 hj
            have := World.cell?_setCells_in p (E.cat z) (off + l.length * E.k) w hroom (j - l.length * E.k) hj2
            rw [e, show off + l.length * E.k + (j - l.length * E.k) = off + j by omega] at this
            exact this
        · rw [World.frozen?_setCells]
          refine ⟨?_, (hm.room j hj).2⟩
          by_cases hin2 : l.length * E.k ≤ j ∧ j < l.length * E.k + (E.cat z).length
          · have := World.cell?_setCells_in p (E.cat z) (off + l.length * E.k) w hroom (j - l.length * E.k) (by omega)
            rw [show off + l.length * E.k + (j - l.length * E.k) = off + j by omega] at this
            rw [this]; rfl
          · rw [World.cell?_setCells_out p _ _ _ _ (fun _ _ => by simp; omega)]
            exact (hm.room j hj).1
end Go.Proofs.Ytdgiljndoeldcaa
