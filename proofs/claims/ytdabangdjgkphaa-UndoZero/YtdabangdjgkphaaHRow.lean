/-
  From handed books and slices of entries to lists: nil, empty or any row. Condition: none.
-/
import Derived.Test.YtdabangdjgkphaaARow
import Derived.Test.YtdabangdjgkphaaHBase
import Derived.Deep.Slices
import Derived.Deep.Fields
import Derived.ChangeSame
namespace Go.Proofs.Ytdabangdjgkphaa
open Go.ChangeShapes Go.WideShapes Go.ChangeAt Go.RowKit Go.Deep
set_option linter.unusedVariables false

instance : Inhabited Et := ⟨⟨⟨#[]⟩, 0, []⟩⟩
theorem enc_of {w : World} {p : Nat} : ∀ (l : List Et) (off : Nat), (∀ j (h : j < l.length), ∃ v, w.cell? ⟨p, off + j * 3, none⟩ = some (.string (l[j]).key) ∧ w.cell? ⟨p, off + j * 3 + 1, none⟩ = some (.int .i64 (l[j]).day) ∧ w.cell? ⟨p, off + j * 3 + 2, none⟩ = some v ∧ LnA w v (l[j]).lns) →
    ∃ cs, Enc w l cs ∧ ∀ j v, cs[j]? = some v → w.cell? ⟨p, off + j, none⟩ = some v
  | [], off, h => ⟨[], rfl, fun j v hj => by simp at hj⟩
  | x :: r, off, h => by
    obtain ⟨v, h0, h1, h2, h3⟩ := h 0 (by simp)
    obtain ⟨cs, e1, e2⟩ := enc_of r (off + 3) (fun j hj => by
      obtain ⟨v, a, b, c, d⟩ := h (j + 1) (by simpa using hj)
      refine ⟨v, ?_, ?_, ?_, d⟩
      · rw [show off + 3 + j * 3 = off + (j + 1) * 3 by omega]; exact a
      · rw [show off + 3 + j * 3 + 1 = off + (j + 1) * 3 + 1 by omega]; exact b
      · rw [show off + 3 + j * 3 + 2 = off + (j + 1) * 3 + 2 by omega]; exact c)
    refine ⟨.string x.key :: .int .i64 x.day :: v :: cs, ⟨v, cs, rfl, h3, e1⟩, fun j u hj => ?_⟩
    match j, hj with
    | 0, hj => simp at hj; subst hj; simpa using h0
    | 1, hj => simp at hj; subst hj; simpa using h1
    | 2, hj => simp at hj; subst hj; simpa using h2
    | k + 3, hj =>
      have := e2 k u (by simpa using hj)
      rw [show off + 3 + k = off + (k + 3) by omega] at this
      exact this
section
variable {H : Type} {enc : TypeId × Value → H} {P : Program} {w : World} {base : Nat} {spare : Nat → Bool} {held : Bool}
theorem open_slice_fields {t e : TypeId} {fs : Array Field} {fuel : Nat} {cs : List Value} {x : DataW H × List MemPlace} (ht : P.underlying t = some (.slice e)) (he : P.underlying e = some (.struct fs))
    (hone : oneCellFields P fs = true) (hC : P.cellsOf e = fs.size) (h : DataW.trod enc P w base spare held fuel t cs = some x) :
    (cs = [.slice none 0 0] ∧ x = (.nil, [])) ∨
    ∃ (a : Addr) (len cap m : Nat) (D : Nat → DataW H) (Pl : Nat → List MemPlace), cs = [.slice (some a) len cap] ∧ base ≤ a.block ∧ len ≤ cap ∧ cap ≤ maxLen ∧ m = (if spare a.block then cap else len) ∧
      x = (.slice ((List.range len).map D) ((List.range (m - len)).map fun j => D (len + j)), MemPlace.row a (m * fs.size) ++ (List.range m).flatMap Pl) ∧
      ∀ i, i < m → ∃ (ys : List (DataW H × List MemPlace)) (n : Nat), D i = .agg (ys.map (·.1)) ∧ Pl i = ys.flatMap (·.2) ∧ ys.length = fs.size ∧
        ∀ (j : Nat) (f : Field), fs[j]? = some f → ∃ (v : Value) (y : DataW H × List MemPlace), w.cell? (a.add (i * fs.size + j)) = some v ∧ ys[j]? = some y ∧ DataW.trod enc P w base spare held n f.type [v] = some y := by
  rcases open_slice ht h with h0 | ⟨a, len, cap, m, n, D, Pl, hcs, hb, hl, hm, hmm, hx, hi⟩
  · exact .inl h0
  · refine .inr ⟨a, len, cap, m, D, Pl, hcs, hb, hl, hm, hmm, by rw [hC] at hx; exact hx, fun i him => ?_⟩
    obtain ⟨cs', hc, ht'⟩ := hi i him
    rw [hC] at hc
    obtain ⟨ys, n', hn', hy, hlen, hyl, hf⟩ := DataW.trod_struct he ht'
    obtain ⟨_, hcl, hat⟩ := World.cells?_some hc
    simp only [Prod.mk.injEq] at hy
    refine ⟨ys, n', hy.1, hy.2, hyl, fun j f hj => ?_⟩
    obtain ⟨ho, hk⟩ := hone_of hone j f hj
    have hjl : j < fs.size := (Array.getElem?_eq_some_iff.1 hj).1
    have hcell := hat j hjl
    have hv : cs'[j]? = some (cs'[j]'(by omega)) := List.getElem?_eq_getElem (by omega)
    have h1 := hf j f hj
    rw [ho, hk] at h1
    have hone' : (cs'.drop j).take 1 = [cs'[j]'(by omega)] := by
      rw [List.drop_eq_getElem_cons (by omega)]
      rfl
    rw [hone'] at h1
    have hys : ys[j]? = some (ys[j]'(by omega)) := List.getElem?_eq_getElem (by omega)
    refine ⟨_, _, ?_, hys, h1.trans hys⟩
    rw [← Go.Deep.add_add, hcell, hv]
end
/-- A handed []api.Entry. -/
theorem entries_of {H : Type} {enc : TypeId × Value → H} {W : World} {base : Nat} {spare : Nat → Bool} {held : Bool} {fuel len cap : Nat} {a : Option Addr} {x : DataW H × List MemPlace}
    (h : DataW.trod enc Try.prog W base spare held fuel 23 [.slice a len cap] = some x) :
    ∃ l : List Et, l.length = len ∧ len ≤ cap ∧ cap ≤ maxLen ∧ EArg W a l ∧ EShort l := by
  rcases open_slice_fields Try.underlying23 Try.underlying32 (by kernel_rfl) (by kernel_rfl) h with ⟨hcs, hx⟩ | ⟨ad, len', cap', m, D, Pl, hcs, hb, hl, hm, hmm, hx, hc⟩
  · simp at hcs
    obtain ⟨rfl, rfl, rfl⟩ := hcs
    exact ⟨[], rfl, by omega, by omega, .inl rfl, by intro x hx; cases hx⟩
  · simp at hcs
    obtain ⟨rfl, rfl, rfl⟩ := hcs
    have lm : len ≤ m := by rw [hmm]; split <;> omega
    have each : ∀ i, i < len → ∃ y : Et, (∃ v, W.cell? (ad.add (i * 3)) = some (.string y.key) ∧ W.cell? (ad.add (i * 3 + 1)) = some (.int .i64 y.day) ∧ W.cell? (ad.add (i * 3 + 2)) = some v ∧ LnA W v y.lns) ∧ y.key.size ≤ maxLen ∧ y.lns.length ≤ maxLen ∧ Shortish y.lns := by
      intro i hi
      obtain ⟨ys, n, _, _, _, hf⟩ := hc i (by omega)
      obtain ⟨v0, y0, c0, _, t0⟩ := hf 0 _ rfl
      obtain ⟨v1, y1, c1, _, t1⟩ := hf 1 _ rfl
      obtain ⟨v2, y2, c2, _, t2⟩ := hf 2 _ rfl
      obtain ⟨s, es, _, hs⟩ := DataW.trod_string Try.underlying9 t0
      obtain ⟨z, ez, _, hz⟩ := DataW.trod_int Try.underlying3 t1
      obtain ⟨a2, len2, cap2, rfl⟩ := slice_of Try.underlying30 t2
      obtain ⟨l2, rfl, hl2, hm2, hA2, hs2, _⟩ := lines_of t2
      have e0 : v0 = .string s := by simpa using es
      have e1 : v1 = .int .i64 z := by simpa using ez
      subst e0 e1
      exact ⟨⟨s, z, l2⟩, ⟨_, by simpa using c0, by simpa using c1, by simpa using c2, a2, cap2, rfl, hl2, hm2, hA2⟩, hs, Nat.le_trans hl2 hm2, hs2⟩
    obtain ⟨f, hf⟩ := choose_lt each
    refine ⟨(List.range len).map f, by simp, hl, hm, ?_, ?_⟩
    · by_cases h0 : len = 0
      · exact .inl (by simp [h0])
      · obtain ⟨b, off, spot⟩ := ad
        obtain ⟨⟨_, hc0, _⟩, _⟩ := hf 0 (by omega)
        have hspot : spot = none := by simpa [Addr.add] using World.cell?_spot hc0
        subst hspot
        refine .inr ⟨b, off, rfl, by simpa [Addr.add] using lt_of_cell hc0, enc_of _ _ fun j hj => ?_⟩
        have hj' : j < len := by simpa using hj
        obtain ⟨⟨v, a0, a1, a2, a3⟩, _⟩ := hf j hj'
        rw [add_plain] at a0 a1 a2
        rw [← Nat.add_assoc] at a1 a2
        exact ⟨v, by simpa using a0, by simpa using a1, by simpa using a2, by simpa using a3⟩
    · intro y hy
      obtain ⟨j, hj, rfl⟩ := List.mem_map.1 hy
      exact (hf j (by simpa using hj)).2
theorem cellsBook : Try.prog.cellsOf 25 = 3 := by kernel_rfl
set_option maxRecDepth 100000 in
/-- A handed api.Book. -/
theorem book_of {H : Type} {enc : TypeId × Value → H} {W : World} {r : Reach} {b0 base : Nat} {spare : Nat → Bool} {held : Bool} {v : Value} {dt : DataW H} {p : List MemPlace}
    (hv : Value.okWide Try.prog W r b0 25 v) (h : DataW.Trod enc Try.prog W base spare held 25 v dt p) : ∃ (q : BkA) (b : Bk), v = bkV q b ∧ BkM W q b := by
  obtain ⟨c0, c1, c2, y0, y1, y2, m, rfl, rfl, rfl, h0, h1, h2⟩ := Joins.open_agg3 Try.underlying25 (by kernel_rfl) cellsBook hv h
  obtain ⟨a0, len0, cap0, rfl⟩ := slice_of Try.underlying22 h0
  obtain ⟨l0, rfl, hl0, hm0, hA0, hs0, _⟩ := accts_of h0
  obtain ⟨a1, len1, cap1, rfl⟩ := slice_of Try.underlying23 h1
  obtain ⟨l1, rfl, hl1, hm1, hA1, hs1⟩ := entries_of h1
  obtain ⟨d, ed, _, hd⟩ := DataW.trod_int Try.underlying3 h2
  have e2 : c2 = .int .i64 d := by simpa using ed
  subst e2
  exact ⟨⟨a0, cap0, a1, cap1⟩, ⟨l0, l1, d⟩, rfl, ⟨hA0, hs0, hl0, hm0, hA1, hs1, hl1, hm1⟩⟩
end Go.Proofs.Ytdabangdjgkphaa
