/-
  Entries that are made by numbers and written on: one line more, one amount more, and what a posting makes of them. No condition but those that each theorem names.
-/
import Derived.Test.YtiilljdeplihoaaUWalkS
namespace Go.Proofs.Ytiilljdeplihoaa
open Go.RowKit Go.WideShapes
set_option linter.unusedVariables false

/-- A line appended to a full row of lines: a new row, which may be written. -/
theorem app_full {w : World} {ops : Array Oper} {rest : List Oper} {o : Oper} {a : Act} {Q : Exit → Act → World → Prop} (hgd : o.guard = none) (s x : Operand)
    (ho : o.op = .call { callee := .builtin .append, args := #[s, x], argTypes := #[54, 54] }) {p hb n : Nat} {l : List Pr} {z : Pr}
    (hs : a.eval s = .slice (some ⟨p, 0, none⟩) n n) (hx : a.eval x = .slice (some ⟨hb, 0, none⟩) 1 1) (hl : l.length = n) (hR : PRow w p 0 l) (c0 : w.cell? ⟨hb, 0, none⟩ = some (.string z.1)) (c1 : w.cell? ⟨hb, 1, none⟩ = some (.int .i64 z.2)) (hn : n ≤ 1000)
    (h : ∀ q c w', POwn w' q (l ++ [z]) → w.heap.size ≤ q → n + 1 ≤ c → c ≤ maxLen → Kept w w' → wpList Try.prog ops Q rest (a.put o.dst (.slice (some ⟨q, 0, none⟩) (n + 1) c)) w') : wpList Try.prog ops Q (o :: rest) a w := by
  subst hl
  obtain ⟨i0, hi, hz0, hz1, hz2⟩ := info_parts pairLine
  refine wpList_append_grows w hgd s x 54 ho 59 i0 _ 2 24 Try.underlying54 hi hz0 hz1 hz2 rfl (by decide) (some ⟨p, 0, none⟩) l.length l.length (pcs l) hs (fun h => by cases h) (pcs_len l) ?_ ⟨hb, 0, none⟩ 1 1 (pc z) hx rfl ?_ (pc_one z) (by omega) (by unfold maxLen; omega) (by omega) ?_
  · intro b hb2 j u hj
    cases hb2
    have hlt := (List.getElem?_eq_some_iff.1 hj).1
    rw [pcs_len] at hlt
    have g := pcs_get l (j / 2) (by omega)
    rcases (show j = j / 2 * 2 ∨ j = j / 2 * 2 + 1 by omega) with e | e
    · have c := hR.c0 (j / 2) (by omega)
      rw [e] at hj ⊢
      rw [g.1] at hj
      rw [add_plain, c, hj]
    · have c := hR.c1 (j / 2) (by omega)
      rw [e] at hj ⊢
      rw [g.2] at hj
      rw [add_plain, ← Nat.add_assoc, c, hj]
  · intro j u hj
    match j, hj with
    | 0, hj => simp [pc] at hj; subst hj; simpa [Addr.add] using c0
    | 1, hj => simp [pc] at hj; subst hj; simpa [Addr.add] using c1
    | k + 2, hj => simp [pc] at hj
  · intro v' w' hO hG
    have hK := Below.grown (Kept.refl w) hG (Nat.le_refl _) (fun j e => by cases e)
    rcases hO.2 with ⟨_, h0⟩ | ⟨q, c, cur, rfl, hq, hh, hc1, hc2, _⟩
    · omega
    · refine h q c w' ⟨⟨(Array.getElem?_eq_some_iff.1 hh).1, fun j hj => ?_, fun j hj => ?_⟩, fun o ho => hO.frozenAt o⟩ hq hc1 hc2 hK
      · rw [Nat.zero_add, hO.cellAt (j * 2) (by simp at hj; omega)]
        have := (pcs_get (l ++ [z]) j hj).1
        rw [pcs_append, show pcs [z] = pc z by simp [pcs]] at this
        exact this
      · rw [Nat.zero_add, hO.cellAt (j * 2 + 1) (by simp at hj; omega)]
        have := (pcs_get (l ++ [z]) j hj).2
        rw [pcs_append, show pcs [z] = pc z by simp [pcs]] at this
        exact this
/-- A written box, and another one. -/
theorem EBx.otherU {w : World} {p r i : Nat} {k : ByteArray} {d : Int} {v u : Value} (h : EBx w p k d v) (hr : r ≠ p) : EBx (w.setCell ⟨r, i, none⟩ u) p k d v := by
  obtain ⟨h0, h1, h2, h3⟩ := h
  have hr' : p ≠ r := fun e => hr e.symm
  exact ⟨by simpa using h0, by go_simp, by go_simp, by go_simp⟩
theorem WBx.set2U {w : World} {p : Nat} {k : ByteArray} {d : Int} {v u : Value} (h : WBx w p k d v) : WBx (w.setCell ⟨p, 2, none⟩ u) p k d u := by
  obtain ⟨⟨h0, h1, h2, h3⟩, f0, f1, f2⟩ := h
  exact ⟨⟨by simpa using h0, by go_simp, by go_simp, by go_simp⟩, by go_simp, by go_simp, by go_simp⟩
/-- One amount written. -/
theorem POwn.amt {w : World} {p : Nat} {l : List Pr} (h : POwn w p l) (i : Nat) (z : Int) (hi : i < l.length) : POwn (w.setCell ⟨p, i * 2 + 1, none⟩ (.int .i64 z)) p (l.set i ((l[i]).1, z)) := by
  have hc1 := h.row.c1 i hi
  rw [Nat.zero_add] at hc1
  refine ⟨⟨by simpa using h.row.lt, fun j hj => ?_, fun j hj => ?_⟩, fun o ho => ?_⟩
  · rw [List.length_set] at hj
    have hcj := h.row.c0 j hj
    rw [Nat.zero_add] at hcj ⊢
    have e1 : j * 2 ≠ i * 2 + 1 := by omega
    by_cases e : i = j
    · subst e
      rw [List.getElem_set_self]
      go_simp
    · rw [List.getElem_set_ne e]
      go_simp
  · rw [List.length_set] at hj
    have hcj := h.row.c1 j hj
    rw [Nat.zero_add] at hcj ⊢
    by_cases e : i = j
    · subst e
      rw [List.getElem_set_self]
      go_simp
    · rw [List.getElem_set_ne e]
      have e2 : j * 2 + 1 ≠ i * 2 + 1 := by omega
      go_simp
  · rw [List.length_set] at ho
    have hf := h.free o ho
    go_simp
/-- Such an entry posted. -/
theorem ky_post {k n : Nat} {d : Int} {l : List Pr} {q : BkA} {b : Bk} {p c : Nat} {w : World} (hM : BkM w q b) (hk : k < 200) (hl : l.length = n) (hn : n ≤ 12) (hO : POwn w p l) (hs : ∀ x ∈ l, hasB x.1 topL = true) (h1 : n ≤ c) (h2 : c ≤ maxLen) (ok : poE b ⟨kyS k, d, l⟩ = 0) :
    Calls Try.prog 23 #[bkV q b, .agg #[.string (kyS k), .int .i64 d, .slice (some ⟨p, 0, none⟩) n c]] w (BkYes w (poV b ⟨kyS k, d, l⟩)) := by
  subst hl
  refine post_yes q b ⟨kyS k, d, l⟩ (some ⟨p, 0, none⟩) c w hM ⟨?_, ?_, .inr ⟨p, 0, rfl, hO.row⟩, fun x hx => ?_, h1, h2⟩ ok
  · have := kyS_size k hk; unfold maxLen; simp only []; omega
  · unfold maxLen; simp only []; omega
  · have h := hs x hx
    have : ∀ y ∈ topL, y.1.size ≤ 2 := by decide +kernel
    obtain ⟨y, hy, e⟩ := hasB_iff.1 h
    have := this y hy
    rw [e] at this
    unfold maxLen; omega
end Go.Proofs.Ytiilljdeplihoaa
