/-
  Entries and books in memory: rows of entries that are read, written and copied. No condition but those that each theorem names.
-/
import Derived.Test.YtdgiljndoeldcaaBMath
import Derived.Laws.IdiomCopy
import Derived.Laws.CopyOwn
namespace Go.Proofs.Ytdgiljndoeldcaa
open Go.RowKit
set_option linter.unusedVariables false

/-- An entry: key, day, lines. -/
structure Et where
  key : ByteArray
  day : Int
  lns : List Pr
/-- A book: accounts, entries, the last day that is shut. -/
structure Bk where
  acs : List Pr
  ens : List Et
  shut : Int
/-- A day that may be. -/
def dyB (n : Int) : Bool := decide (0 ≤ n) && decide (n ≤ 292193)
theorem dyB_iff (n : Int) : dyB n = true ↔ 0 ≤ n ∧ n ≤ 292193 := by unfold dyB; simp
/-- One entry before another: by days, then by keys. -/
def befB (x y : Et) : Bool := if x.day = y.day then ltB x.key y.key else decide (x.day < y.day)
/-- Are two entries the same? -/
def smB (x y : Et) : Bool := (x.key.toList == y.key.toList) && (x.day == y.day) && decide (x.lns = y.lns)
theorem smB_iff (x y : Et) : smB x y = true ↔ x = y := by
  unfold smB
  simp only [Bool.and_eq_true, beq_iff_eq, decide_eq_true_eq]
  constructor
  · rintro ⟨⟨h1, h2⟩, h3⟩
    have := ba_ext h1
    cases x; cases y; simp_all
  · rintro rfl; simp
/-- Lines, as an entry holds them. -/
def LnA (w : World) (v : Value) (l : List Pr) : Prop := ∃ a cap, v = .slice a l.length cap ∧ l.length ≤ cap ∧ cap ≤ maxLen ∧ PArg w a l
theorem LnA.later {w w' : World} {v : Value} {l : List Pr} (h : LnA w v l) (k : Kept w w') : LnA w' v l := by
  obtain ⟨a, cap, e, h1, h2, h3⟩ := h
  exact ⟨a, cap, e, h1, h2, h3.later k⟩
/-- The cells of a row of entries. -/
def Enc (w : World) : List Et → List Value → Prop
  | [], cs => cs = []
  | x :: r, cs => ∃ v t, cs = .string x.key :: .int .i64 x.day :: v :: t ∧ LnA w v x.lns ∧ Enc w r t
theorem Enc.later {w w' : World} (k : Kept w w') : ∀ {l : List Et} {cs : List Value}, Enc w l cs → Enc w' l cs
  | [], _, h => h
  | x :: r, _, ⟨v, t, e, h1, h2⟩ => ⟨v, t, e, h1.later k, h2.later k⟩
theorem Enc.len {w : World} : ∀ {l : List Et} {cs : List Value}, Enc w l cs → cs.length = l.length * 3
  | [], _, h => by cases h; rfl
  | x :: r, _, ⟨v, t, e, h1, h2⟩ => by rw [e]; simp only [List.length_cons, h2.len]; omega
theorem Enc.append {w : World} : ∀ {l m : List Et} {cs ds : List Value}, Enc w l cs → Enc w m ds → Enc w (l ++ m) (cs ++ ds)
  | [], _, _, _, h, k => by cases h; exact k
  | x :: r, _, _, _, ⟨v, t, e, h1, h2⟩, k => ⟨v, t ++ _, by rw [e]; rfl, h1, h2.append k⟩
theorem Enc.one {w : World} {x : Et} {v : Value} (h : LnA w v x.lns) : Enc w [x] [.string x.key, .int .i64 x.day, v] := ⟨v, [], rfl, h, rfl⟩
theorem Enc.take {w : World} : ∀ {l : List Et} {cs : List Value} (i : Nat), Enc w l cs → Enc w (l.take i) (cs.take (i * 3))
  | _, _, 0, _ => by simp [Enc]
  | [], _, i + 1, h => by cases h; simp [Enc]
  | x :: r, _, i + 1, ⟨v, t, e, h1, h2⟩ => ⟨v, t.take (i * 3), by rw [e, show (i + 1) * 3 = i * 3 + 1 + 1 + 1 by omega]; rfl, h1, h2.take i⟩
theorem Enc.drop {w : World} : ∀ {l : List Et} {cs : List Value} (i : Nat), Enc w l cs → Enc w (l.drop i) (cs.drop (i * 3))
  | _, _, 0, h => by simpa using h
  | [], _, i + 1, h => by cases h; simp [Enc]
  | x :: r, _, i + 1, ⟨v, t, e, h1, h2⟩ => by
    have := h2.drop i
    rw [e, show (i + 1) * 3 = i * 3 + 1 + 1 + 1 by omega]
    exact this
theorem Enc.at {w : World} : ∀ {l : List Et} {cs : List Value}, Enc w l cs → ∀ j (h : j < l.length), ∃ v, cs[j * 3]? = some (.string (l[j]).key) ∧ cs[j * 3 + 1]? = some (.int .i64 (l[j]).day) ∧ cs[j * 3 + 2]? = some v ∧ LnA w v (l[j]).lns
  | x :: r, _, ⟨v, t, e, h1, h2⟩, 0, _ => ⟨v, by rw [e]; rfl, by rw [e]; rfl, by rw [e]; rfl, h1⟩
  | x :: r, _, ⟨v, t, e, h1, h2⟩, j + 1, h => by
    obtain ⟨u, a, b, c, d⟩ := h2.at j (by simpa using h)
    refine ⟨u, ?_, ?_, ?_, d⟩
    · rw [e, show (j + 1) * 3 = j * 3 + 1 + 1 + 1 by omega]; exact a
    · rw [e, show (j + 1) * 3 + 1 = j * 3 + 1 + 1 + 1 + 1 by omega]; exact b
    · rw [e, show (j + 1) * 3 + 2 = j * 3 + 2 + 1 + 1 + 1 by omega]; exact c
theorem Enc.cell1 {w : World} : ∀ {l : List Et} {cs : List Value}, Enc w l cs → ∀ v ∈ cs, v.oneCell' = true
  | [], _, h, v, hv => by cases h; cases hv
  | x :: r, _, ⟨u, t, e, ⟨a, cap, e1, _⟩, h2⟩, v, hv => by
    rw [e] at hv
    simp only [List.mem_cons] at hv
    rcases hv with rfl | rfl | rfl | hv
    · rfl
    · rfl
    · rw [e1]; rfl
    · exact h2.cell1 v hv
/-- A row of entries that is read. -/
def ERow (w : World) (p off : Nat) (l : List Et) : Prop := p < w.heap.size ∧ ∃ cs, Enc w l cs ∧ ∀ j v, cs[j]? = some v → w.cell? ⟨p, off + j, none⟩ = some v
theorem ERow.later {w w' : World} {p off : Nat} {l : List Et} (h : ERow w p off l) (k : Kept w w') : ERow w' p off l := by
  obtain ⟨h0, cs, h1, h2⟩ := h
  exact ⟨Nat.lt_of_lt_of_le h0 k.le, cs, h1.later k, fun j v hj => (k.rd.1 _ _ h0).trans (h2 j v hj)⟩
theorem ERow.at {w : World} {p off : Nat} {l : List Et} (h : ERow w p off l) (j : Nat) (hj : j < l.length) :
    ∃ a cap, w.cell? ⟨p, off + j * 3, none⟩ = some (.string (l[j]).key) ∧ w.cell? ⟨p, off + j * 3 + 1, none⟩ = some (.int .i64 (l[j]).day) ∧ w.cell? ⟨p, off + j * 3 + 2, none⟩ = some (.slice a (l[j]).lns.length cap) ∧ (l[j]).lns.length ≤ cap ∧ cap ≤ maxLen ∧ PArg w a (l[j]).lns := by
  obtain ⟨_, cs, h1, h2⟩ := h
  obtain ⟨v, a, b, c, ad, cap, e, d⟩ := h1.at j hj
  subst e
  exact ⟨ad, cap, h2 _ _ a, h2 _ _ b, h2 _ _ c, d⟩
/-- A slice of entries, nil included. -/
def EArg (w : World) (a : Option Addr) (l : List Et) : Prop := l = [] ∨ ∃ p off, a = some ⟨p, off, none⟩ ∧ ERow w p off l
theorem EArg.later {w w' : World} {a : Option Addr} {l : List Et} (h : EArg w a l) (k : Kept w w') : EArg w' a l := by
  rcases h with h | ⟨p, off, e, h⟩
  · exact .inl h
  · exact .inr ⟨p, off, e, h.later k⟩
theorem EArg.at {w : World} {a : Option Addr} {l : List Et} (h : EArg w a l) {j : Nat} (hj : j < l.length) : ∃ p off, a = some ⟨p, off, none⟩ ∧ ERow w p off l := by
  rcases h with h | h
  · rw [h] at hj; simp at hj
  · exact h
theorem ERow.take {w : World} {p off : Nat} {l : List Et} (h : ERow w p off l) (k : Nat) : ERow w p off (l.take k) := by
  obtain ⟨h0, cs, h1, h2⟩ := h
  refine ⟨h0, cs.take (k * 3), h1.take k, fun j v hj => h2 j v ?_⟩
  rw [List.getElem?_take] at hj
  split at hj
  · exact hj
  · cases hj
theorem EArg.take {w : World} {a : Option Addr} {l : List Et} (h : EArg w a l) (k : Nat) : EArg w a (l.take k) := by
  rcases h with h | ⟨p, off, e, h⟩
  · exact .inl (by rw [h]; simp)
  · exact .inr ⟨p, off, e, h.take k⟩
/-- Texts that are no longer than a text may be. -/
def EShort (l : List Et) : Prop := ∀ x ∈ l, x.key.size ≤ maxLen ∧ x.lns.length ≤ maxLen ∧ Shortish x.lns
/-- Where a book's rows lie. -/
structure BkA where
  aa : Option Addr
  ca : Nat
  ae : Option Addr
  ce : Nat
abbrev bkV (q : BkA) (b : Bk) : Value := .agg #[.slice q.aa b.acs.length q.ca, .slice q.ae b.ens.length q.ce, .int .i64 b.shut]
/-- A book in memory. -/
structure BkM (w : World) (q : BkA) (b : Bk) : Prop where
  acs : PArg w q.aa b.acs
  sha : Shortish b.acs
  la : b.acs.length ≤ q.ca
  lca : q.ca ≤ maxLen
  ens : EArg w q.ae b.ens
  she : EShort b.ens
  le : b.ens.length ≤ q.ce
  lce : q.ce ≤ maxLen
theorem BkM.later {w w' : World} {q : BkA} {b : Bk} (h : BkM w q b) (k : Kept w w') : BkM w' q b :=
  ⟨h.acs.later k, h.sha, h.la, h.lca, h.ens.later k, h.she, h.le, h.lce⟩
theorem BkM.an {w : World} {q : BkA} {b : Bk} (h : BkM w q b) : b.acs.length ≤ maxLen := Nat.le_trans h.la h.lca
theorem BkM.en {w : World} {q : BkA} {b : Bk} (h : BkM w q b) : b.ens.length ≤ maxLen := Nat.le_trans h.le h.lce
/-- A struct of a book, in a box of its own. -/
structure BBx (w : World) (p : Nat) (q : BkA) (b : Bk) : Prop where
  lt : p < w.heap.size
  c0 : w.cell? ⟨p, 0, none⟩ = some (.slice q.aa b.acs.length q.ca)
  c1 : w.cell? ⟨p, 1, none⟩ = some (.slice q.ae b.ens.length q.ce)
  c2 : w.cell? ⟨p, 2, none⟩ = some (.int .i64 b.shut)
theorem BBx.later {w w' : World} {p : Nat} {q : BkA} {b : Bk} (h : BBx w p q b) (k : Kept w w') : BBx w' p q b :=
  ⟨Nat.lt_of_lt_of_le h.lt k.le, (k.rd.1 _ _ h.lt).trans h.c0, (k.rd.1 _ _ h.lt).trans h.c1, (k.rd.1 _ _ h.lt).trans h.c2⟩
abbrev bkO (q : BkA) (b : Bk) : Obj := .cells #[.slice q.aa b.acs.length q.ca, .slice q.ae b.ens.length q.ce, .int .i64 b.shut] 58
theorem BBx.new (w : World) (q : BkA) (b : Bk) : BBx (w.alloc (bkO q b)) w.heap.size q b := ⟨by simp, by simp, by simp, by simp⟩

/-! Copies. -/
theorem run_copy_cellsK {P : Program} (w : World) (dT sT ty elem : TypeId) (b o dLen dCap : Nat) (a : Addr) (sLen sCap : Nat) (cs : List Value) (K : Nat)
    (hu : P.underlying dT = some (.slice elem)) (hs : (P.info? elem).map (·.size) = some K) (hn : cs.length = Nat.min sLen dLen * K)
    (hsrc : ∀ j v, cs[j]? = some v → w.cell? (a.add j) = some v) (hc : ∀ j, j < cs.length → (w.cell? ⟨b, o + j, none⟩).isSome = true) (hf : ∀ j, j < cs.length → w.frozen? ⟨b, o + j, none⟩ = false) (h1 : ∀ v ∈ cs, v.oneCell' = true) :
    (Builtin.copy_ #[dT, sT] ty #[.slice (some ⟨b, o, none⟩) dLen dCap, .slice (some a) sLen sCap]).run P w = .ok (goInt (Nat.min sLen dLen)) (w.setCells b o cs) := by
  have hl := run_loadCells_list (P := P) w a cs hsrc
  have hst := run_storeCells_cells (P := P) b o cs 0 w (by simpa using hc) (by simpa using hf) h1
  cases hq : P.info? elem with
  | none => simp [hq] at hs
  | some i =>
    have hi : i.size = K := by simpa [hq] using hs
    simp [Builtin.copy_, run_underlying hu, Builtin.lenOf, Builtin.firstCells, sizeOf, typeInfo, hq, hi, ← hn, hl, hst]
theorem run_copy_noneK {P : Program} (w : World) (dT sT ty elem : TypeId) (d a : Option Addr) (dLen dCap sLen sCap : Nat) (hu : P.underlying dT = some (.slice elem)) (hs : ((P.info? elem).map (·.size)).isSome = true) (hn : Nat.min sLen dLen = 0) :
    (Builtin.copy_ #[dT, sT] ty #[.slice d dLen dCap, .slice a sLen sCap]).run P w = .ok (goInt 0) w := by
  cases hq : P.info? elem with
  | none => simp [hq] at hs
  | some i =>
    have hl : ∀ (x : Addr), (loadCells x 0).run P w = .ok #[] w := fun x => by simpa using run_loadCells_list (P := P) w x [] (by simp)
    cases d <;> cases a <;> simp [Builtin.copy_, run_underlying hu, Builtin.lenOf, Builtin.firstCells, sizeOf, typeInfo, hq, hn, storeCells, hl]
theorem Kept.setCells {a w : World} {g : Nat} : ∀ (vs : List Value) (o : Nat) {w : World}, Kept a w → a.heap.size ≤ g → Kept a (w.setCells g o vs)
  | [], _, _, h, _ => h
  | v :: r, o, _, h, hg => Kept.setCells (w := w) r (o + 1) (h.setAt hg v) hg
theorem size_setCells (g : Nat) : ∀ (vs : List Value) (o : Nat) (w : World), (w.setCells g o vs).heap.size = w.heap.size
  | [], _, _ => rfl
  | v :: r, o, w => by rw [World.setCells, size_setCells g r]; simp
/-- The whole of a row of pairs written over. -/
theorem POwn.copied {w : World} {g : Nat} {l m : List Pr} (h : POwn w g m) (hl : l.length = m.length) : POwn (w.setCells g 0 (pcs l)) g l := by
  have some_ : ∀ j, j < (pcs l).length → (w.cell? ⟨g, 0 + j, none⟩).isSome = true := fun j hj => by
    rw [pcs_len] at hj
    rw [Nat.zero_add]
    by_cases c : j % 2 = 0
    · have := h.row.c0 (j / 2) (by omega)
      rw [show 0 + j / 2 * 2 = j by omega] at this
      rw [this]; rfl
    · have := h.row.c1 (j / 2) (by omega)
      rw [show 0 + j / 2 * 2 + 1 = j by omega] at this
      rw [this]; rfl
  have get : ∀ j v, (pcs l)[j]? = some v → (w.setCells g 0 (pcs l)).cell? ⟨g, j, none⟩ = some v := fun j v hj => by
    obtain ⟨hlt, e⟩ := List.getElem?_eq_some_iff.1 hj
    have := World.cell?_setCells_in g (pcs l) 0 w some_ j hlt
    rw [Nat.zero_add] at this
    rw [this, e]
  refine ⟨⟨by rw [size_setCells]; exact h.row.lt, fun j hj => ?_, fun j hj => ?_⟩, fun o ho => ?_⟩
  · rw [Nat.zero_add]; exact get _ _ (pcs_get l j hj).1
  · rw [Nat.zero_add]; exact get _ _ (pcs_get l j hj).2
  · rw [World.frozen?_setCells]; exact h.free o (by rw [← hl]; exact ho)
theorem PRow.src {w : World} {p off : Nat} {l : List Pr} (h : PRow w p off l) : ∀ j v, (pcs l)[j]? = some v → w.cell? ⟨p, off + j, none⟩ = some v := fun j v hj => by
  obtain ⟨hlt, e⟩ := List.getElem?_eq_some_iff.1 hj
  have hn := hlt
  rw [pcs_len] at hn
  by_cases c : j % 2 = 0
  · have a := (pcs_get l (j / 2) (by omega)).1
    have b := h.c0 (j / 2) (by omega)
    rw [show j / 2 * 2 = j by omega] at a b
    rw [b, ← a, hj]
  · have a := (pcs_get l (j / 2) (by omega)).2
    have b := h.c1 (j / 2) (by omega)
    rw [show j / 2 * 2 + 1 = j by omega] at a
    rw [show off + j / 2 * 2 + 1 = off + j by omega] at b
    rw [b, ← a, hj]
/-- 'copy' of a row of pairs over one of the call's own of the same length. -/
theorem wpList_copy_pr {w : World} {ops : Array Oper} {rest : List Oper} {o : Oper} {a : Act} {Q : Exit → Act → World → Prop} (T S : TypeId) (hT : PairT T) (hS : Try.prog.underlying S = some (.slice T)) (hgd : o.guard = none) (d s : Operand)
    (ho : o.op = .call { callee := .builtin .copy, args := #[d, s], argTypes := #[S, S] }) {g n cap : Nat} {sp : Option Addr} {l m : List Pr} {W : World} (hd : a.eval d = .slice (some ⟨g, 0, none⟩) n n) (hs : a.eval s = .slice sp n cap)
    (hl : l.length = n) (hm : m.length = n) (hA : PArg w sp l) (hO : POwn w g m) (hK : Kept W w) (hg : W.heap.size ≤ g)
    (h : ∀ w', POwn w' g l → Kept W w' → wpList Try.prog ops Q rest (a.put o.dst (goInt n)) w') : wpList Try.prog ops Q (o :: rest) a w := by
  refine wpList_plain hgd fun _ hK' => ?_
  obtain ⟨i0, hi, hz0, hz1, hz2⟩ := info_parts hT
  have hsz : (Try.prog.info? T).map (·.size) = some 2 := by rw [hi]; simp [hz1]
  unfold Oper.wp execOp
  by_cases h0 : l = []
  · subst h0
    have n0 : n = 0 := by simpa using hl.symm
    subst n0
    have m0 : m = [] := List.eq_nil_of_length_eq_zero hm
    subst m0
    have hr := run_copy_noneK (P := Try.prog) w S S o.type T (some ⟨g, 0, none⟩) sp 0 0 0 cap hS (by rw [hsz]; rfl) rfl
    simp only [ho, resolve, invoke, builtin, Sem.run_bind, Sem.run_pure, Result.andThen_ok, List.map_toArray, List.map_cons, List.map_nil, hd, hs, hr]
    exact hK' _ _ (h w hO hK)
  · rcases hA with hA | ⟨p, off, rfl, hR⟩
    · exact absurd hA h0
    · have hr := run_copy_cellsK (P := Try.prog) w S S o.type T g 0 n n ⟨p, off, none⟩ n cap (pcs l) 2 hS hsz (by rw [pcs_len, hl]; simp)
        (fun j v hj => by rw [Addr.add_lit]; exact hR.src j v hj)
        (fun j hj => by
          rw [pcs_len] at hj
          rw [Nat.zero_add]
          by_cases c : j % 2 = 0
          · have := hO.row.c0 (j / 2) (by omega)
            rw [show 0 + j / 2 * 2 = j by omega] at this
            rw [this]; rfl
          · have := hO.row.c1 (j / 2) (by omega)
            rw [show 0 + j / 2 * 2 + 1 = j by omega] at this
            rw [this]; rfl)
        (fun j hj => by rw [Nat.zero_add]; rw [pcs_len] at hj; exact hO.free j (by omega)) (pcs_one l)
      rw [show Nat.min n n = n from Nat.min_self n] at hr
      simp only [ho, resolve, invoke, builtin, Sem.run_bind, Sem.run_pure, Result.andThen_ok, List.map_toArray, List.map_cons, List.map_nil, hd, hs, hr]
      exact hK' _ _ (h _ (hO.copied (by omega)) (Kept.setCells (w := w) _ _ hK hg))
/-- A row of entries of the call's own, written from its head on. -/
structure EOwn (w : World) (g n : Nat) (cs : List Value) : Prop where
  lt : g < w.heap.size
  pre : ∀ j v, cs[j]? = some v → w.cell? ⟨g, j, none⟩ = some v
  all : ∀ j, j < n → (w.cell? ⟨g, j, none⟩).isSome = true
  free : ∀ j, w.frozen? ⟨g, j, none⟩ = false
theorem EOwn.later {w w' : World} {g n : Nat} {cs : List Value} (h : EOwn w g n cs) (k : Kept w w') : EOwn w' g n cs :=
  ⟨Nat.lt_of_lt_of_le h.lt k.le, fun j v hj => (k.rd.1 _ _ h.lt).trans (h.pre j v hj), fun j hj => by rw [k.rd.1 _ _ h.lt]; exact h.all j hj, fun j => (k.rd.2 _ _ h.lt).trans (h.free j)⟩
theorem EOwn.push {w : World} {g n c : Nat} {cs : List Value} (h : EOwn w g n cs) (a b d : Value) (hc : cs.length = c) (hn : c + 3 ≤ n) :
    EOwn (((w.setCell ⟨g, c, none⟩ a).setCell ⟨g, c + 1, none⟩ b).setCell ⟨g, c + 2, none⟩ d) g n (cs ++ [a, b, d]) := by
  have e : ((w.setCell ⟨g, c, none⟩ a).setCell ⟨g, c + 1, none⟩ b).setCell ⟨g, c + 2, none⟩ d = w.setCells g c [a, b, d] := rfl
  rw [e]
  refine ⟨by rw [size_setCells]; exact h.lt, fun j v hj => ?_, fun j hj => ?_, fun j => by rw [World.frozen?_setCells]; exact h.free j⟩
  · rw [List.getElem?_append] at hj
    split at hj
    · rename_i hlt
      rw [World.cell?_setCells_out _ _ _ _ _ (fun _ _ => .inl (by simpa [hc] using hlt))]
      exact h.pre j v hj
    · obtain ⟨hlt, e2⟩ := List.getElem?_eq_some_iff.1 hj
      have := World.cell?_setCells_in g [a, b, d] c w (fun i hi => h.all _ (by simp at hi; omega)) (j - cs.length) hlt
      rw [show c + (j - cs.length) = j by omega] at this
      rw [this, e2]
  · by_cases hin : j < c ∨ c + 3 ≤ j
    · rw [World.cell?_setCells_out _ _ _ _ _ (fun _ _ => by simpa using hin)]
      exact h.all j hj
    · have := World.cell?_setCells_in g [a, b, d] c w (fun i hi => h.all _ (by simp at hi; omega)) (j - c) (by simp; omega)
      rw [show c + (j - c) = j by omega] at this
      rw [this]; rfl
/-- So many empty entries. -/
def es (n : Nat) : Array Value := madeCells #[.string ⟨#[]⟩, .int .i64 0, .slice none 0 0] (n * 3)
theorem es_size (n : Nat) : (es n).size = n * 3 := size_madeCells _ _
theorem EOwn.made {w : World} {n p : Nat} {t : TypeId} (hp : w.heap.size = p) : EOwn (w.alloc (.cells (es n) t)) p (n * 3) [] := by
  subst hp
  refine ⟨by simp, fun j v hj => by simp at hj, fun j hj => ?_, fun j => by simp⟩
  have : j < (es n).size := by rw [es_size]; exact hj
  simp [this]
theorem infoEntry : (Try.prog.info? 64).map (fun i => (i.zero, i.size, i.bytes)) = some (some (.agg #[.string ⟨#[]⟩, .int .i64 0, .slice none 0 0]), 3, 48) := by kernel_rfl
theorem make_entries (n : Nat) (hn : n ≤ 1000000) (w : World) :
    (Instr.makeSlice 56 (.int .i64 (n : Int)) (.int .i64 (n : Int))).run Try.prog w = .ok (.slice (some ⟨w.heap.size, 0, none⟩) n n) (w.alloc (.cells (es n) 64)) := by
  obtain ⟨i0, hi, hz0, hz1, hz2⟩ := info_parts infoEntry
  have h := run_make (P := Try.prog) w 56 64 i0 (.agg #[.string ⟨#[]⟩, .int .i64 0, .slice none 0 0]) Try.underlying56 hi hz0 .i64 .i64 n n (by omega) (Int.le_refl _) (by rw [hz2]; omega) (by omega)
  rw [hz1] at h
  simpa [es, Value.cells] using h
theorem make_accts (n : Nat) (hn : n ≤ 1000000) (w : World) :
    (Instr.makeSlice 55 (.int .i64 (n : Int)) (.int .i64 (n : Int))).run Try.prog w = .ok (.slice (some ⟨w.heap.size, 0, none⟩) n n) (w.alloc (.cells (ps n) 84)) := by
  obtain ⟨i0, hi, hz0, hz1, hz2⟩ := info_parts pairAcct
  have h := run_make (P := Try.prog) w 55 84 i0 (.agg #[.string ⟨#[]⟩, .int .i64 0]) Try.underlying55 hi hz0 .i64 .i64 n n (by omega) (Int.le_refl _) (by rw [hz2]; omega) (by omega)
  rw [hz1] at h
  simpa [ps, Value.cells] using h
end Go.Proofs.Ytdgiljndoeldcaa
