import Derived.Test.YtbaahnafmfjpaaaGreatDoorMgAGrow
import Derived.ProofKit
import Derived.OpenShut
import Derived.SizedLaws
import Derived.Lib.RowBridge
import Derived.Lib.SmallJoins
import Derived.Deep.SlicePairs
import Derived.Test.YtbaahnafmfjpaaaGreatDoorMgBMath
import Derived.Deep.Slices
import Derived.Deep.Fields
import Derived.ChangeSame
/-
  From handed slices of accounts and of lines to lists of pairs: nil, empty or any row. Condition: none.
-/
namespace Go.Proofs.YtbaahnafmfjpaaaGreatDoor
open Go.ChangeShapes Go.WideShapes Go.ChangeAt Go.RowKit Go.Deep
set_option linter.unusedVariables false

theorem laidOut : laidOutB Tryz.prog = true := by kernel_rfl
theorem lt_of_cell {w : World} {a : Addr} {v : Value} (h : w.cell? a = some v) : a.block < w.heap.size := by
  unfold World.cell? at h
  split at h
  · next e => exact (Array.getElem?_eq_some_iff.1 e).1
  · cases h
/-- The numbers of a row fit a machine's word. -/
def Fits (l : List Pr) : Prop := ∀ x ∈ l, -9223372036854775808 ≤ x.2 ∧ x.2 ≤ 9223372036854775807
theorem pairs_of {H : Type} {enc : TypeId × Value → H} {W : World} {base : Nat} {spare : Nat → Bool} {held : Bool} {S T : TypeId} {f0 f1 : Field} {fuel len cap : Nat} {a : Option Addr} {x : DataW H × List MemPlace}
    (hS : Tryz.prog.underlying S = some (.slice T)) (he : Tryz.prog.underlying T = some (.struct #[f0, f1])) (ce : Tryz.prog.cellsOf T = 2) (o0 : f0.offset = 0) (o1 : f1.offset = 1)
    (t0 : Tryz.prog.underlying f0.type = some .string) (t1 : Tryz.prog.underlying f1.type = some (.int .i64)) (c0 : Tryz.prog.cellsOf f0.type = 1) (c1 : Tryz.prog.cellsOf f1.type = 1)
    (h : DataW.trod enc Tryz.prog W base spare held fuel S [.slice a len cap] = some x) :
    ∃ l : List Pr, l.length = len ∧ len ≤ cap ∧ cap ≤ maxLen ∧ PArg W a l ∧ Shortish l ∧ Fits l := by
  rcases open_slice_pairs hS he ce o0 o1 c0 c1 h with ⟨hcs, hx⟩ | ⟨ad, len', cap', m, n, V0, V1, D0, D1, P0, P1, hcs, hb, hl, hm, hmm, hx, hc⟩
  · simp at hcs
    obtain ⟨rfl, rfl, rfl⟩ := hcs
    exact ⟨[], rfl, by omega, by omega, .inl rfl, by simp [Shortish], by simp [Fits]⟩
  · simp at hcs
    obtain ⟨rfl, rfl, rfl⟩ := hcs
    have lm : len ≤ m := by rw [hmm]; split <;> omega
    have each : ∀ i, i < len → ∃ y : Pr, W.cell? (ad.add (i * 2)) = some (.string y.1) ∧ W.cell? (ad.add (i * 2 + 1)) = some (.int .i64 y.2) ∧ y.1.size ≤ maxLen ∧ (-9223372036854775808 ≤ y.2 ∧ y.2 ≤ 9223372036854775807) := by
      intro i hi
      obtain ⟨h0, h1, h2, h3⟩ := hc i (by omega)
      obtain ⟨s, es, _, hs⟩ := DataW.trod_string t0 h2
      obtain ⟨z, ez, _, hz⟩ := DataW.trod_int t1 h3
      have e1 : V0 i = .string s := by simpa using es
      have e2 : V1 i = .int .i64 z := by simpa using ez
      exact ⟨(s, z), by rw [h0, e1], by rw [h1, e2], hs, bounds_i64 hz⟩
    obtain ⟨f, hf⟩ := choose_lt each
    refine ⟨(List.range len).map f, by simp, hl, hm, ?_, ?_, ?_⟩
    · by_cases h0 : len = 0
      · exact .inl (by simp [h0])
      · obtain ⟨b, off, spot⟩ := ad
        have hc0 := (hf 0 (by omega)).1
        have hspot : spot = none := by simpa [Addr.add] using World.cell?_spot hc0
        subst hspot
        refine .inr ⟨b, off, rfl, by simpa [Addr.add] using lt_of_cell hc0, fun j hj => ?_, fun j hj => ?_⟩
        · have hj' : j < len := by simpa using hj
          have := (hf j hj').1
          rw [add_plain] at this
          simpa using this
        · have hj' : j < len := by simpa using hj
          have := (hf j hj').2.1
          rw [add_plain, ← Nat.add_assoc] at this
          simpa using this
    · intro y hy
      obtain ⟨j, hj, rfl⟩ := List.mem_map.1 hy
      exact (hf j (by simpa using hj)).2.2.1
    · intro y hy
      obtain ⟨j, hj, rfl⟩ := List.mem_map.1 hy
      exact (hf j (by simpa using hj)).2.2.2
theorem cellsAcct : Tryz.prog.cellsOf 54 = 2 := by kernel_rfl
theorem cellsLine : Tryz.prog.cellsOf 48 = 2 := by kernel_rfl
theorem cellsStr1 : Tryz.prog.cellsOf 9 = 1 := by kernel_rfl
theorem cellsInt1 : Tryz.prog.cellsOf 3 = 1 := by kernel_rfl
/-- A handed []api.Acct. -/
theorem accts_of {H : Type} {enc : TypeId × Value → H} {W : World} {base : Nat} {spare : Nat → Bool} {held : Bool} {fuel len cap : Nat} {a : Option Addr} {x : DataW H × List MemPlace}
    (h : DataW.trod enc Tryz.prog W base spare held fuel 22 [.slice a len cap] = some x) :
    ∃ l : List Pr, l.length = len ∧ len ≤ cap ∧ cap ≤ maxLen ∧ PArg W a l ∧ Shortish l ∧ Fits l :=
  pairs_of Tryz.underlying22 Tryz.underlying54 cellsAcct rfl rfl Tryz.underlying9 Tryz.underlying3 cellsStr1 cellsInt1 h
/-- A handed []api.Line. -/
theorem lines_of {H : Type} {enc : TypeId × Value → H} {W : World} {base : Nat} {spare : Nat → Bool} {held : Bool} {fuel len cap : Nat} {a : Option Addr} {x : DataW H × List MemPlace}
    (h : DataW.trod enc Tryz.prog W base spare held fuel 34 [.slice a len cap] = some x) :
    ∃ l : List Pr, l.length = len ∧ len ≤ cap ∧ cap ≤ maxLen ∧ PArg W a l ∧ Shortish l ∧ Fits l :=
  pairs_of Tryz.underlying34 Tryz.underlying48 cellsLine rfl rfl Tryz.underlying9 Tryz.underlying3 cellsStr1 cellsInt1 h
theorem cellsEntry : Tryz.prog.cellsOf 38 = 3 := by kernel_rfl
theorem slice_of {H : Type} {enc : TypeId × Value → H} {W : World} {base : Nat} {spare : Nat → Bool} {held : Bool} {S T : TypeId} {fuel : Nat} {v : Value} {x : DataW H × List MemPlace}
    (hS : Tryz.prog.underlying S = some (.slice T)) (h : DataW.trod enc Tryz.prog W base spare held fuel S [v] = some x) : ∃ a len cap, v = .slice a len cap := by
  rcases open_slice hS h with ⟨hcs, _⟩ | ⟨ad, len, cap, m, n, D, Pl, hcs, _⟩
  · exact ⟨none, 0, 0, by simpa using hcs⟩
  · exact ⟨some ad, len, cap, by simpa using hcs⟩
set_option maxRecDepth 100000 in
/-- A handed api.Entry. -/
theorem entry_of {H : Type} {enc : TypeId × Value → H} {W : World} {r : Reach} {b0 base : Nat} {spare : Nat → Bool} {held : Bool} {v : Value} {dt : DataW H} {p : List MemPlace}
    (hv : Value.okWide Tryz.prog W r b0 38 v) (h : DataW.Trod enc Tryz.prog W base spare held 38 v dt p) :
    ∃ (k : ByteArray) (d : Int) (a : Option Addr) (l : List Pr) (cap : Nat), v = .agg #[.string k, .int .i64 d, .slice a l.length cap] ∧ k.size ≤ maxLen ∧ (-9223372036854775808 ≤ d ∧ d ≤ 9223372036854775807) ∧ l.length ≤ cap ∧ cap ≤ maxLen ∧ PArg W a l ∧ Shortish l ∧ Fits l := by
  obtain ⟨c0, c1, c2, y0, y1, y2, m, rfl, rfl, rfl, h0, h1, h2⟩ := Joins.open_agg3 Tryz.underlying38 (by kernel_rfl) cellsEntry hv h
  obtain ⟨k, ek, _, hk⟩ := DataW.trod_string Tryz.underlying9 h0
  obtain ⟨d, ed, _, hd⟩ := DataW.trod_int Tryz.underlying3 h1
  obtain ⟨a, len, cap, rfl⟩ := slice_of Tryz.underlying34 h2
  obtain ⟨l, rfl, hl, hm, hA, hs, hF⟩ := lines_of h2
  have e0 : c0 = .string k := by simpa using ek
  have e1 : c1 = .int .i64 d := by simpa using ed
  subst e0 e1
  exact ⟨k, d, a, l, cap, rfl, hk, bounds_i64 hd, hl, hm, hA, hs, hF⟩
end Go.Proofs.YtbaahnafmfjpaaaGreatDoor

/-
  From handed books and slices of entries to lists: nil, empty or any row. Condition: none.
-/
namespace Go.Proofs.YtbaahnafmfjpaaaGreatDoor
open Go.ChangeShapes Go.WideShapes Go.ChangeAt Go.RowKit Go.Deep
set_option linter.unusedVariables false

instance : Inhabited Et := ⟨⟨⟨#[]⟩, 0, []⟩⟩
theorem enc_of {w : World} {p : Nat} : ∀ (l : List Et) (off : Nat), (∀ j (h : j < l.length), ∃ v, w.cell? ⟨p, off + j * 3, none⟩ = some (.string (l[j]).key) ∧ w.cell? ⟨p, off + j * 3 + 1, none⟩ = some (.int .i64 (l[j]).day) ∧ w.cell? ⟨p, off + j * 3 + 2, none⟩ = some v ∧ LnA w v (l[j]).lns) →
    ∃ cs, Enc w l cs ∧ ∀ j v, cs[j]? = some v → w.cell? ⟨p, off + j, none⟩ = some v
  | [], off, h => ⟨[], rfl, fun j v hj => by simp at hj⟩
  | x :: r, off, h => by
    obtain ⟨v, h0, h1, h2, h3⟩ := h 0 (by simp)
    obtain ⟨cs, e1, e2⟩ := enc_of r (off + 3) (fun j hj => by
      obtain ⟨v, a, b, c, d⟩ := h (j + 1) (by simpa using hj)
      refine ⟨v, ?_, ?_, ?_, d⟩
      · rw [show off + 3 + j * 3 = off + (j + 1) * 3 by omega]; exact a
      · rw [show off + 3 + j * 3 + 1 = off + (j + 1) * 3 + 1 by omega]; exact b
      · rw [show off + 3 + j * 3 + 2 = off + (j + 1) * 3 + 2 by omega]; exact c)
    refine ⟨.string x.key :: .int .i64 x.day :: v :: cs, ⟨v, cs, rfl, h3, e1⟩, fun j u hj => ?_⟩
    match j, hj with
    | 0, hj => simp at hj; subst hj; simpa using h0
    | 1, hj => simp at hj; subst hj; simpa using h1
    | 2, hj => simp at hj; subst hj; simpa using h2
    | k + 3, hj =>
      have := e2 k u (by simpa using hj)
      rw [show off + 3 + k = off + (k + 3) by omega] at this
      exact this
section
variable {H : Type} {enc : TypeId × Value → H} {P : Program} {w : World} {base : Nat} {spare : Nat → Bool} {held : Bool}
theorem open_slice_fields {t e : TypeId} {fs : Array Field} {fuel : Nat} {cs : List Value} {x : DataW H × List MemPlace} (ht : P.underlying t = some (.slice e)) (he : P.underlying e = some (.struct fs))
    (hone : oneCellFields P fs = true) (hC : P.cellsOf e = fs.size) (h : DataW.trod enc P w base spare held fuel t cs = some x) :
    (cs = [.slice none 0 0] ∧ x = (.nil, [])) ∨
    ∃ (a : Addr) (len cap m : Nat) (D : Nat → DataW H) (Pl : Nat → List MemPlace), cs = [.slice (some a) len cap] ∧ base ≤ a.block ∧ len ≤ cap ∧ cap ≤ maxLen ∧ m = (if spare a.block then cap else len) ∧
      x = (.slice ((List.range len).map D) ((List.range (m - len)).map fun j => D (len + j)), MemPlace.row a (m * fs.size) ++ (List.range m).flatMap Pl) ∧
      ∀ i, i < m → ∃ (ys : List (DataW H × List MemPlace)) (n : Nat), D i = .agg (ys.map (·.1)) ∧ Pl i = ys.flatMap (·.2) ∧ ys.length = fs.size ∧
        ∀ (j : Nat) (f : Field), fs[j]? = some f → ∃ (v : Value) (y : DataW H × List MemPlace), w.cell? (a.add (i * fs.size + j)) = some v ∧ ys[j]? = some y ∧ DataW.trod enc P w base spare held n f.type [v] = some y := by
  rcases open_slice ht h with h0 | ⟨a, len, cap, m, n, D, Pl, hcs, hb, hl, hm, hmm, hx, hi⟩
  · exact .inl h0
  · refine .inr ⟨a, len, cap, m, D, Pl, hcs, hb, hl, hm, hmm, by rw [hC] at hx; exact hx, fun i him => ?_⟩
    obtain ⟨cs', hc, ht'⟩ := hi i him
    rw [hC] at hc
    obtain ⟨ys, n', hn', hy, hlen, hyl, hf⟩ := DataW.trod_struct he ht'
    obtain ⟨_, hcl, hat⟩ := World.cells?_some hc
    simp only [Prod.mk.injEq] at hy
    refine ⟨ys, n', hy.1, hy.2, hyl, fun j f hj => ?_⟩
    obtain ⟨ho, hk⟩ := hone_of hone j f hj
    have hjl : j < fs.size := (Array.getElem?_eq_some_iff.1 hj).1
    have hcell := hat j hjl
    have hv : cs'[j]? = some (cs'[j]'(by omega)) := List.getElem?_eq_getElem (by omega)
    have h1 := hf j f hj
    rw [ho, hk] at h1
    have hone' : (cs'.drop j).take 1 = [cs'[j]'(by omega)] := by
      rw [List.drop_eq_getElem_cons (by omega)]
      rfl
    rw [hone'] at h1
    have hys : ys[j]? = some (ys[j]'(by omega)) := List.getElem?_eq_getElem (by omega)
    refine ⟨_, _, ?_, hys, h1.trans hys⟩
    rw [← Go.Deep.add_add, hcell, hv]
end
/-- A handed []api.Entry. -/
theorem entries_of {H : Type} {enc : TypeId × Value → H} {W : World} {base : Nat} {spare : Nat → Bool} {held : Bool} {fuel len cap : Nat} {a : Option Addr} {x : DataW H × List MemPlace}
    (h : DataW.trod enc Tryz.prog W base spare held fuel 23 [.slice a len cap] = some x) :
    ∃ l : List Et, l.length = len ∧ len ≤ cap ∧ cap ≤ maxLen ∧ EArg W a l ∧ EShort l := by
  rcases open_slice_fields Tryz.underlying23 Tryz.underlying38 (by kernel_rfl) (by kernel_rfl) h with ⟨hcs, hx⟩ | ⟨ad, len', cap', m, D, Pl, hcs, hb, hl, hm, hmm, hx, hc⟩
  · simp at hcs
    obtain ⟨rfl, rfl, rfl⟩ := hcs
    exact ⟨[], rfl, by omega, by omega, .inl rfl, by intro x hx; cases hx⟩
  · simp at hcs
    obtain ⟨rfl, rfl, rfl⟩ := hcs
    have lm : len ≤ m := by rw [hmm]; split <;> omega
    have each : ∀ i, i < len → ∃ y : Et, (∃ v, W.cell? (ad.add (i * 3)) = some (.string y.key) ∧ W.cell? (ad.add (i * 3 + 1)) = some (.int .i64 y.day) ∧ W.cell? (ad.add (i * 3 + 2)) = some v ∧ LnA W v y.lns) ∧ y.key.size ≤ maxLen ∧ y.lns.length ≤ maxLen ∧ Shortish y.lns := by
      intro i hi
      obtain ⟨ys, n, _, _, _, hf⟩ := hc i (by omega)
      obtain ⟨v0, y0, c0, _, t0⟩ := hf 0 _ rfl
      obtain ⟨v1, y1, c1, _, t1⟩ := hf 1 _ rfl
      obtain ⟨v2, y2, c2, _, t2⟩ := hf 2 _ rfl
      obtain ⟨s, es, _, hs⟩ := DataW.trod_string Tryz.underlying9 t0
      obtain ⟨z, ez, _, hz⟩ := DataW.trod_int Tryz.underlying3 t1
      obtain ⟨a2, len2, cap2, rfl⟩ := slice_of Tryz.underlying34 t2
      obtain ⟨l2, rfl, hl2, hm2, hA2, hs2, _⟩ := lines_of t2
      have e0 : v0 = .string s := by simpa using es
      have e1 : v1 = .int .i64 z := by simpa using ez
      subst e0 e1
      exact ⟨⟨s, z, l2⟩, ⟨_, by simpa using c0, by simpa using c1, by simpa using c2, a2, cap2, rfl, hl2, hm2, hA2⟩, hs, Nat.le_trans hl2 hm2, hs2⟩
    obtain ⟨f, hf⟩ := choose_lt each
    refine ⟨(List.range len).map f, by simp, hl, hm, ?_, ?_⟩
    · by_cases h0 : len = 0
      · exact .inl (by simp [h0])
      · obtain ⟨b, off, spot⟩ := ad
        obtain ⟨⟨_, hc0, _⟩, _⟩ := hf 0 (by omega)
        have hspot : spot = none := by simpa [Addr.add] using World.cell?_spot hc0
        subst hspot
        refine .inr ⟨b, off, rfl, by simpa [Addr.add] using lt_of_cell hc0, enc_of _ _ fun j hj => ?_⟩
        have hj' : j < len := by simpa using hj
        obtain ⟨⟨v, a0, a1, a2, a3⟩, _⟩ := hf j hj'
        rw [add_plain] at a0 a1 a2
        rw [← Nat.add_assoc] at a1 a2
        exact ⟨v, by simpa using a0, by simpa using a1, by simpa using a2, by simpa using a3⟩
    · intro y hy
      obtain ⟨j, hj, rfl⟩ := List.mem_map.1 hy
      exact (hf j (by simpa using hj)).2
theorem cellsBook : Tryz.prog.cellsOf 25 = 3 := by kernel_rfl
set_option maxRecDepth 100000 in
/-- A handed api.Book. -/
theorem book_of {H : Type} {enc : TypeId × Value → H} {W : World} {r : Reach} {b0 base : Nat} {spare : Nat → Bool} {held : Bool} {v : Value} {dt : DataW H} {p : List MemPlace}
    (hv : Value.okWide Tryz.prog W r b0 25 v) (h : DataW.Trod enc Tryz.prog W base spare held 25 v dt p) : ∃ (q : BkA) (b : Bk), v = bkV q b ∧ BkM W q b := by
  obtain ⟨c0, c1, c2, y0, y1, y2, m, rfl, rfl, rfl, h0, h1, h2⟩ := Joins.open_agg3 Tryz.underlying25 (by kernel_rfl) cellsBook hv h
  obtain ⟨a0, len0, cap0, rfl⟩ := slice_of Tryz.underlying22 h0
  obtain ⟨l0, rfl, hl0, hm0, hA0, hs0, _⟩ := accts_of h0
  obtain ⟨a1, len1, cap1, rfl⟩ := slice_of Tryz.underlying23 h1
  obtain ⟨l1, rfl, hl1, hm1, hA1, hs1⟩ := entries_of h1
  obtain ⟨d, ed, _, hd⟩ := DataW.trod_int Tryz.underlying3 h2
  have e2 : c2 = .int .i64 d := by simpa using ed
  subst e2
  exact ⟨⟨a0, cap0, a1, cap1⟩, ⟨l0, l1, d⟩, rfl, ⟨hA0, hs0, hl0, hm0, hA1, hs1, hl1, hm1⟩⟩
end Go.Proofs.YtbaahnafmfjpaaaGreatDoor
