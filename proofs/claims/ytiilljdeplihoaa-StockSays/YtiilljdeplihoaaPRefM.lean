/-
  The reference's way to Fifo, on lists: spans of places, and what they say of lots. No condition but those that each theorem names.
-/
import Derived.Test.YtiilljdeplihoaaPWalkE
namespace Go.Proofs.Ytiilljdeplihoaa
set_option linter.unusedVariables false

/-- From, to, cost. -/
abbrev Sp := Int × Int × Int
def spA (g : Int) (s : Sp) : Int := if s.1 < g then g else s.1
def spB (t : Int) (s : Sp) : Int := if t < s.2.1 then t else s.2.1
def spP (g t : Int) (s : Sp) : Int := if spB t s ≤ spA g s then 0 else if spB t s < s.2.1 then s.2.2 * (spB t s - spA g s) / (s.2.1 - spA g s) else s.2.2
def spN (g t : Int) (s : Sp) : Sp := if spB t s ≤ spA g s then s else (spB t s, s.2.1, s.2.2 - spP g t s)
def spS (g t : Int) : List Sp → Int
  | [] => 0
  | s :: r => spP g t s + spS g t r
def live : List Sp → List Mv
  | [] => []
  | s :: r => (if s.1 < s.2.1 then [(s.2.1 - s.1, s.2.2)] else []) ++ live r
theorem spS_app (g t : Int) : ∀ l m : List Sp, spS g t (l ++ m) = spS g t l + spS g t m
  | [], m => by simp [spS]
  | x :: r, m => by rw [List.cons_append, spS, spS_app g t r m, spS]; omega
theorem live_app : ∀ l m : List Sp, live (l ++ m) = live l ++ live m
  | [], m => rfl
  | x :: r, m => by rw [List.cons_append, live, live_app r m, live, List.append_assoc]
/-- Spans one behind another: what is used up, and what remains from a place on. -/
def Ch : Int → List Sp → Int → Prop
  | g, [], e => g = e
  | g, s :: r, e => (s.1 = s.2.1 ∧ s.2.1 ≤ g ∧ Ch g r e) ∨ (s.1 = g ∧ s.1 < s.2.1 ∧ Ch s.2.1 r e)
theorem Ch.snoc : ∀ {S : List Sp} {g e : Int} (k c : Int), Ch g S e → 0 < k → Ch g (S ++ [(e, e + k, c)]) (e + k)
  | [], g, e, k, c, h, hk => by
    have h : g = e := h
    subst h
    exact .inr ⟨rfl, by simp only; omega, rfl⟩
  | s :: r, g, e, k, c, h, hk => by
    rcases h with ⟨a, b, h⟩ | ⟨a, b, h⟩
    · exact .inl ⟨a, b, Ch.snoc k c h hk⟩
    · exact .inr ⟨a, b, Ch.snoc k c h hk⟩
theorem Ch.cnt : ∀ {S : List Sp} {g e : Int}, Ch g S e → cnt (live S) = e - g
  | [], g, e, h => by
    have h : g = e := h
    simp [live, Go.Proofs.Ytiilljdeplihoaa.cnt]; omega
  | s :: r, g, e, h => by
    rw [live, cnt_app]
    rcases h with ⟨a, b, h⟩ | ⟨a, b, h⟩
    · rw [if_neg (by omega), Ch.cnt h]; simp [Go.Proofs.Ytiilljdeplihoaa.cnt]
    · rw [if_pos b, Ch.cnt h]; simp [Go.Proofs.Ytiilljdeplihoaa.cnt]; omega
theorem spN_same {g t : Int} {s : Sp} (h : spB t s ≤ spA g s) : spN g t s = s ∧ spP g t s = 0 := by unfold spN spP; rw [if_pos h, if_pos h]; exact ⟨rfl, rfl⟩
theorem Ch.far : ∀ {S : List Sp} {g e : Int} {g0 t : Int}, Ch g S e → g0 ≤ g → t ≤ g → S.map (spN g0 t) = S ∧ spS g0 t S = 0
  | [], g, e, g0, t, h, h1, h2 => ⟨rfl, rfl⟩
  | s :: r, g, e, g0, t, h, h1, h2 => by
    rcases h with ⟨a, b, h⟩ | ⟨a, b, h⟩
    · have k := spN_same (g := g0) (t := t) (s := s) (by unfold spA spB; split <;> split <;> omega)
      obtain ⟨i1, i2⟩ := Ch.far (g0 := g0) (t := t) h h1 h2
      rw [List.map_cons, k.1, i1, spS, k.2, i2]; exact ⟨rfl, rfl⟩
    · have k := spN_same (g := g0) (t := t) (s := s) (by unfold spA spB; split <;> split <;> omega)
      obtain ⟨i1, i2⟩ := Ch.far (g0 := g0) (t := t) h (by omega) (by omega)
      rw [List.map_cons, k.1, i1, spS, k.2, i2]; exact ⟨rfl, rfl⟩
theorem Ch.take : ∀ {S : List Sp} {g e : Int} {g0 t : Int}, Ch g S e → g0 ≤ g → g ≤ t → t ≤ e → live (S.map (spN g0 t)) = tkL (live S) (t - g) ∧ spS g0 t S = tkC (live S) (t - g) ∧ Ch t (S.map (spN g0 t)) e
  | [], g, e, g0, t, h, h1, h2, h3 => by
    have h : g = e := h
    exact ⟨rfl, rfl, show t = e by omega⟩
  | s :: r, g, e, g0, t, h, h1, h2, h3 => by
    by_cases tg : t = g
    · subst tg
      obtain ⟨f1, f2⟩ := Ch.far (t := t) h h1 (Int.le_refl _)
      have z := tk_zero (live (s :: r)) (n := t - t) (by omega)
      rw [f1, f2, z.1, z.2]
      exact ⟨rfl, rfl, h⟩
    · rcases h with ⟨a, b, h⟩ | ⟨a, b, h⟩
      · have k := spN_same (g := g0) (t := t) (s := s) (by unfold spA spB; split <;> split <;> omega)
        obtain ⟨i1, i2, i3⟩ := Ch.take h h1 h2 h3
        rw [List.map_cons, k.1, live, i1, live, if_neg (by omega), spS, k.2, i2]
        exact ⟨rfl, by simp, .inl ⟨a, by omega, i3⟩⟩
      · have eA : spA g0 s = g := by unfold spA; split <;> omega
        by_cases c : t < s.2.1
        · have eB : spB t s = t := by unfold spB; rw [if_pos c]
          have eP : spP g0 t s = s.2.2 * (t - g) / (s.2.1 - g) := by unfold spP; rw [eA, eB, if_neg (by omega), if_pos c]
          have eN : spN g0 t s = (t, s.2.1, s.2.2 - s.2.2 * (t - g) / (s.2.1 - g)) := by unfold spN; rw [eP, eA, eB, if_neg (by omega)]
          obtain ⟨f1, f2⟩ := Ch.far (g0 := g0) (t := t) h (by omega) (by omega)
          obtain ⟨k1, k2⟩ := tk_part (x := (s.2.1 - s.1, s.2.2)) (r := live r) (n := t - g) (by omega) (by simp only; omega)
          rw [List.map_cons, eN, f1, live, if_pos (by simp only; omega), live, if_pos b, spS, eP, f2, List.singleton_append, List.singleton_append, k1, k2, a]
          refine ⟨?_, by simp, .inr ⟨rfl, c, h⟩⟩
          simp only
          rw [show s.2.1 - t = s.2.1 - g - (t - g) by omega]
        · have eB : spB t s = s.2.1 := by unfold spB; rw [if_neg c]
          have eP : spP g0 t s = s.2.2 := by unfold spP; rw [eA, eB, if_neg (by omega), if_neg (by omega)]
          have eN : spN g0 t s = (s.2.1, s.2.1, s.2.2 - s.2.2) := by unfold spN; rw [eP, eA, eB, if_neg (by omega)]
          obtain ⟨i1, i2, i3⟩ := Ch.take (g0 := g0) (t := t) h (by omega) (by omega) h3
          obtain ⟨k1, k2⟩ := tk_all (x := (s.2.1 - s.1, s.2.2)) (r := live r) (n := t - g) (by omega) (by simp only; omega)
          rw [List.map_cons, eN, live, if_neg (by simp only; omega), i1, live, if_pos b, spS, eP, i2, List.singleton_append, k1, k2]
          rw [show t - g - (s.2.1 - s.1) = t - s.2.1 by omega]
          exact ⟨by simp, rfl, .inl ⟨rfl, by simp only; omega, i3⟩⟩
/-- The bounds of a span. -/
structure SpOk (s : Sp) : Prop where
  f0 : 0 ≤ s.1
  le : s.1 ≤ s.2.1
  hi : s.2.1 ≤ 40000000
  len : s.2.1 - s.1 ≤ 1000000
  c0 : 0 ≤ s.2.2
  c1 : s.2.2 ≤ 1000000000000
theorem SpOk.part {s : Sp} (h : SpOk s) (g t : Int) : 0 ≤ spP g t s ∧ spP g t s ≤ s.2.2 := by
  obtain ⟨h1, h2, h3, h4, h5, h6⟩ := h
  unfold spP
  split
  · omega
  · rename_i c
    split
    · rename_i d
      exact part_bd h5 (by omega) (by omega) (by omega)
    · omega
theorem SpOk.next {s : Sp} (h : SpOk s) (g t : Int) : SpOk (spN g t s) := by
  have hp := h.part g t
  obtain ⟨h1, h2, h3, h4, h5, h6⟩ := h
  unfold spN
  split
  · exact ⟨h1, h2, h3, h4, h5, h6⟩
  · rename_i c
    have a : s.1 ≤ spA g s := by unfold spA; split <;> omega
    have b : spB t s ≤ s.2.1 := by unfold spB; split <;> omega
    exact ⟨by simp only; omega, by simp only; omega, h3, by simp only; omega, by simp only; omega, by simp only; omega⟩
/-- What is known of the spans behind some moves. -/
structure RfOk (l : List Mv) (S : List Sp) (n g : Int) : Prop where
  ch : Ch g S n
  sp : ∀ s ∈ S, SpOk s
  lv : live S = (ffS l).2
  n1 : n ≤ 1000000 * (l.length : Int)
  g0 : 0 ≤ g
  gn : g ≤ n
  ct : n - g = cnt l
  ln : S.length ≤ l.length
theorem RfOk.nil : RfOk [] [] 0 0 := ⟨rfl, (fun s hs => by cases hs), rfl, by simp, Int.le_refl _, Int.le_refl _, rfl, Nat.le_refl _⟩
theorem RfOk.recv {l : List Mv} {S : List Sp} {n g : Int} {m : Mv} (h : RfOk l S n g) (hm : ckM m = 0) (pos : 0 < m.1) (hl : l.length < 40) : RfOk (l ++ [m]) (S ++ [(n, n + m.1, m.2)]) (n + m.1) g := by
  obtain ⟨a1, a2, a3, a4, a5, a6⟩ := ckM_ok hm
  obtain ⟨ch, sp, lv, n1, g0, gn, ct, ln⟩ := h
  refine ⟨ch.snoc m.1 m.2 pos, fun s hs => ?_, ?_, by simp; omega, g0, by omega, by rw [cnt_app]; simp [cnt]; omega, by simp; omega⟩
  · rcases List.mem_append.1 hs with hs | hs
    · exact sp s hs
    · have : s = (n, n + m.1, m.2) := by simpa using hs
      subst this
      exact ⟨by simp only; omega, by simp only; omega, by simp only; omega, by simp only; omega, a4, a5⟩
  · rw [live_app, lv, ffS_snoc]
    unfold ffT
    rw [if_pos pos]
    have e : live [(n, n + m.1, m.2)] = [m] := by
      rw [live, if_pos (by simp only; omega)]
      simp only [live, List.append_nil]
      rw [show n + m.1 - n = m.1 by omega]
    rw [e]
theorem RfOk.send {l : List Mv} {S : List Sp} {n g : Int} {m : Mv} (h : RfOk l S n g) (hm : ckM m = 0) (neg : ¬ 0 < m.1) (hn : 0 ≤ cnt l + m.1) :
    RfOk (l ++ [m]) (S.map (spN g (g - m.1))) n (g - m.1) ∧ spS g (g - m.1) S = tkC (ffS l).2 (-m.1) := by
  obtain ⟨a1, a2, a3, a4, a5, a6⟩ := ckM_ok hm
  obtain ⟨ch, sp, lv, n1, g0, gn, ct, ln⟩ := h
  obtain ⟨t1, t2, t3⟩ := ch.take (g0 := g) (t := g - m.1) (Int.le_refl _) (by omega) (by omega)
  rw [show g - m.1 - g = -m.1 by omega] at t1 t2
  refine ⟨⟨t3, fun s hs => ?_, ?_, by simp; omega, by omega, by omega, by rw [cnt_app]; simp [cnt]; omega, by simp; omega⟩, by rw [t2, lv]⟩
  · obtain ⟨s0, h0, rfl⟩ := List.mem_map.1 hs
    exact (sp s0 h0).next _ _
  · rw [t1, lv, ffS_snoc]
    unfold ffT
    rw [if_neg neg]
/-- Spans, some of them taken from already. -/
def mixN (g t : Int) (S : List Sp) (i : Nat) : List Sp := (S.take i).map (spN g t) ++ S.drop i
theorem mixN_len (g t : Int) (S : List Sp) (i : Nat) : (mixN g t S i).length = S.length := by unfold mixN; simp; omega
theorem mixN_at (g t : Int) (S : List Sp) {i : Nat} (h : i < S.length) : (mixN g t S i)[i]'(by rw [mixN_len]; exact h) = S[i] := by
  unfold mixN
  rw [List.getElem_append_right (by simp; omega)]
  simp only [List.length_map, List.length_take, Nat.min_eq_left (Nat.le_of_lt h), Nat.sub_self, List.getElem_drop, Nat.add_zero]
theorem mixN_next (g t : Int) (S : List Sp) {i : Nat} (h : i < S.length) : mixN g t S (i + 1) = (mixN g t S i).set i (spN g t S[i]) := by
  unfold mixN
  rw [take_snocP S i h, List.map_append, List.set_append_right _ _ (by simp; omega)]
  simp only [List.length_map, List.length_take, Nat.min_eq_left (Nat.le_of_lt h), Nat.sub_self]
  rw [drop_atP S i h, List.set_cons_zero, List.append_assoc]
  rfl
theorem mixN_same (g t : Int) (S : List Sp) {i : Nat} (h : i < S.length) (k : spB t S[i] ≤ spA g S[i]) : mixN g t S (i + 1) = mixN g t S i := by
  unfold mixN
  rw [take_snocP S i h, List.map_append, drop_atP S i h]
  simp [(spN_same k).1]
theorem mixN_end (g t : Int) (S : List Sp) : mixN g t S S.length = S.map (spN g t) := by unfold mixN; simp
theorem mixN_zero (g t : Int) (S : List Sp) : mixN g t S 0 = S := by unfold mixN; simp
end Go.Proofs.Ytiilljdeplihoaa
