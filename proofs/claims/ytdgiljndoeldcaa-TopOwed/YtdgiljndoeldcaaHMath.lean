/-
  Books that may be: their entries in order, what is posted, balances. No condition but those that each theorem names.
-/
import Derived.Test.YtdgiljndoeldcaaHBase
namespace Go.Proofs.Ytdgiljndoeldcaa
open Go.RowKit
set_option linter.unusedVariables false

/-! The order. -/
theorem lt_irr (a : ByteArray) : ltB a a = false := bl_irrefl _
theorem lt_tr {a b c : ByteArray} (h : ltB a b = true) (k : ltB b c = true) : ltB a c = true := bl_trans _ _ _ h k
theorem lt_tot {a b : ByteArray} (h : ltB a b = false) (e : a ≠ b) : ltB b a = true := by
  apply bl_total
  unfold ltB at h
  rw [h, Bool.false_or, beq_eq_false_iff_ne]
  exact fun k => e (ba_ext k)
theorem bef_iff {x y : Et} : befB x y = true ↔ x.day < y.day ∨ (x.day = y.day ∧ ltB x.key y.key = true) := by
  unfold befB
  by_cases h : x.day = y.day
  · rw [if_pos h]; constructor
    · exact fun k => .inr ⟨h, k⟩
    · rintro (k | k)
      · omega
      · exact k.2
  · rw [if_neg h, decide_eq_true_eq]; constructor
    · exact .inl
    · rintro (k | k)
      · exact k
      · exact absurd k.1 h
theorem bef_irr (x : Et) : befB x x = false := by
  cases h : befB x x
  · rfl
  · rcases bef_iff.1 h with h | ⟨_, h⟩
    · omega
    · rw [lt_irr] at h; cases h
theorem bef_tr {x y z : Et} (h : befB x y = true) (k : befB y z = true) : befB x z = true := by
  rw [bef_iff] at *
  rcases h with h | ⟨h, h'⟩
  · rcases k with k | ⟨k, _⟩ <;> exact .inl (by omega)
  · rcases k with k | ⟨k, k'⟩
    · exact .inl (by omega)
    · exact .inr ⟨by omega, lt_tr h' k'⟩
theorem bef_tot {x y : Et} (h : befB x y = false) (e : x.key ≠ y.key) : befB y x = true := by
  rw [bef_iff]
  by_cases d : x.day = y.day
  · refine .inr ⟨d.symm, lt_tot ?_ e⟩
    unfold befB at h; rw [if_pos d] at h; exact h
  · unfold befB at h; rw [if_neg d, decide_eq_false_iff_not] at h
    exact .inl (by omega)
theorem bef_asym {x y : Et} (h : befB x y = true) : befB y x = false := by
  cases k : befB y x
  · rfl
  · have := bef_tr h k; rw [bef_irr] at this; cases this
/-- In order. -/
def Srt : List Et → Prop
  | [] => True
  | x :: r => (∀ y ∈ r, befB x y = true) ∧ Srt r
theorem Srt.app : ∀ {l m : List Et}, Srt (l ++ m) ↔ Srt l ∧ Srt m ∧ ∀ x ∈ l, ∀ y ∈ m, befB x y = true
  | [], m => by simp [Srt]
  | x :: r, m => by
    simp only [List.cons_append, Srt, Srt.app (l := r), List.mem_append, List.mem_cons]
    constructor
    · rintro ⟨h, h1, h2, h3⟩
      refine ⟨⟨fun y hy => h y (.inl hy), h1⟩, h2, ?_⟩
      rintro y (rfl | hy) z hz
      · exact h z (.inr hz)
      · exact h3 y hy z hz
    · rintro ⟨⟨h, h1⟩, h2, h3⟩
      refine ⟨?_, h1, h2, fun y hy z hz => h3 y (.inr hy) z hz⟩
      rintro y (hy | hy)
      · exact h y hy
      · exact h3 x (.inl rfl) y hy
theorem Srt.ext : ∀ {l m : List Et}, Srt l → Srt m → (∀ x, x ∈ l ↔ x ∈ m) → l = m
  | [], [], _, _, _ => rfl
  | [], y :: m, _, _, h => by have := (h y).2 (by simp); simp at this
  | x :: l, [], _, _, h => by have := (h x).1 (by simp); simp at this
  | x :: l, y :: m, hl, hm, h => by
    have e : x = y := by
      rcases List.mem_cons.1 ((h x).1 (by simp)) with e | e
      · exact e
      · rcases List.mem_cons.1 ((h y).2 (by simp)) with e' | e'
        · exact e'.symm
        · have a := hm.1 x e
          have b := hl.1 y e'
          rw [bef_asym a] at b; cases b
    subst e
    refine congrArg (x :: ·) (Srt.ext hl.2 hm.2 fun z => ⟨fun hz => ?_, fun hz => ?_⟩)
    · rcases List.mem_cons.1 ((h z).1 (by simp [hz])) with e | e
      · subst e; have := hl.1 z hz; rw [bef_irr] at this; cases this
      · exact e
    · rcases List.mem_cons.1 ((h z).2 (by simp [hz])) with e | e
      · subst e; have := hm.1 z hz; rw [bef_irr] at this; cases this
      · exact e

/-! P34. -/
/-- Have all lines an account? -/
def allA (acs l : List Pr) : Bool := l.all fun y => hasB y.1 acs
theorem allA_iff {acs l : List Pr} : allA acs l = true ↔ ∀ y ∈ l, hasB y.1 acs = true := by unfold allA; simp
/-- Is there a key among entries? -/
def keyI (k : ByteArray) (l : List Et) : Bool := l.any fun e => e.key.toList == k.toList
theorem keyI_iff {k : ByteArray} {l : List Et} : keyI k l = true ↔ ∃ e ∈ l, e.key = k := by
  unfold keyI
  rw [List.any_eq_true]
  constructor
  · rintro ⟨e, h1, h2⟩; exact ⟨e, h1, ba_ext (beq_iff_eq.1 h2)⟩
  · rintro ⟨e, h1, rfl⟩; exact ⟨e, h1, by simp⟩
/-- Does an entry come behind the last of those before it? -/
def lastB (done : List Et) (x : Et) : Bool := match done.getLast? with | none => true | some y => befB y x
/-- The error of one entry behind others. -/
def exE (acs : List Pr) (done : List Et) (x : Et) : Int :=
  if enE x.key x.day x.lns = 0 then (if allA acs x.lns = true then (if keyI x.key done = true then 5 else if lastB done x = true then 0 else 3) else 4) else enE x.key x.day x.lns
/-- The first error of entries behind others. -/
def exsE (acs : List Pr) (done : List Et) : List Et → Int
  | [] => 0
  | x :: r => if exE acs done x = 0 then exsE acs (done ++ [x]) r else exE acs done x
/-- P34: the error of a book. -/
def bkE (b : Bk) : Int :=
  if acE b.acs = 0 then (if b.shut = -1 ∨ dyB b.shut = true then (if 60 < b.ens.length then 2 else exsE b.acs [] b.ens) else 1) else acE b.acs
/-- An entry that may be in a book with these accounts. -/
def OkE (acs : List Pr) (x : Et) : Prop := enE x.key x.day x.lns = 0 ∧ ∀ y ∈ x.lns, hasB y.1 acs = true
theorem exE_iff {acs : List Pr} {done : List Et} {x : Et} : exE acs done x = 0 ↔ OkE acs x ∧ (∀ e ∈ done, e.key ≠ x.key) ∧ lastB done x = true := by
  unfold exE OkE
  by_cases h1 : enE x.key x.day x.lns = 0
  · rw [if_pos h1]
    by_cases h2 : allA acs x.lns = true
    · rw [if_pos h2]
      by_cases h3 : keyI x.key done = true
      · rw [if_pos h3]
        obtain ⟨e, he, hk⟩ := keyI_iff.1 h3
        constructor
        · intro h; omega
        · rintro ⟨_, h, _⟩; exact absurd hk (h e he)
      · rw [if_neg h3]
        have h3' : ∀ e ∈ done, e.key ≠ x.key := fun e he hk => h3 (keyI_iff.2 ⟨e, he, hk⟩)
        by_cases h4 : lastB done x = true
        · rw [if_pos h4]; simp only [true_iff]; exact ⟨⟨h1, allA_iff.1 h2⟩, h3', h4⟩
        · rw [if_neg h4]; constructor
          · intro h; omega
          · rintro ⟨_, _, h⟩; exact absurd h h4
    · rw [if_neg h2]; constructor
      · intro h; omega
      · rintro ⟨⟨_, h⟩, _⟩; exact absurd (allA_iff.2 h) h2
  · rw [if_neg h1]; constructor
    · intro h; exact absurd h h1
    · rintro ⟨⟨h, _⟩, _⟩; exact absurd h h1
theorem last_iff {done : List Et} {x : Et} (h : Srt done) : lastB done x = true ↔ ∀ y ∈ done, befB y x = true := by
  unfold lastB
  rcases List.eq_nil_or_concat done with rfl | ⟨l, y, rfl⟩
  · simp
  · rw [List.concat_eq_append] at *
    rw [List.getLast?_append]
    simp only [List.getLast?_singleton, Option.some_or]
    constructor
    · intro k z hz
      rcases List.mem_append.1 hz with hz | hz
      · exact bef_tr ((Srt.app.1 h).2.2 z hz y (by simp)) k
      · rw [List.mem_singleton] at hz; subst hz; exact k
    · intro k; exact k y (by simp)
theorem exsE_iff {acs : List Pr} : ∀ (l done : List Et), Srt done → (done.map Et.key).Nodup → (exsE acs done l = 0 ↔ (∀ x ∈ l, OkE acs x) ∧ ((done ++ l).map Et.key).Nodup ∧ Srt (done ++ l))
  | [], done, hs, hn => by
    simp only [exsE, List.append_nil, true_iff]
    exact ⟨fun _ h => by simp at h, hn, hs⟩
  | x :: r, done, hs, hn => by
    have ap : done ++ x :: r = (done ++ [x]) ++ r := by simp
    rw [exsE]
    by_cases h : exE acs done x = 0
    · rw [if_pos h]
      obtain ⟨h1, h2, h3⟩ := exE_iff.1 h
      have hs' : Srt (done ++ [x]) := Srt.app.2 ⟨hs, ⟨by simp, trivial⟩, fun y hy z hz => by rw [List.mem_singleton] at hz; subst hz; exact (last_iff hs).1 h3 y hy⟩
      have hn' : ((done ++ [x]).map Et.key).Nodup := by
        rw [List.map_append, List.nodup_append]
        refine ⟨hn, by simp, fun a ha b hb => ?_⟩
        obtain ⟨e, he, rfl⟩ := List.mem_map.1 ha
        simp at hb; subst hb
        exact h2 e he
      rw [exsE_iff r (done ++ [x]) hs' hn', ap]
      constructor
      · rintro ⟨a, b, c⟩; exact ⟨fun y hy => by rcases List.mem_cons.1 hy with rfl | hy; exact h1; exact a y hy, b, c⟩
      · rintro ⟨a, b, c⟩; exact ⟨fun y hy => a y (by simp [hy]), b, c⟩
    · rw [if_neg h]
      constructor
      · intro k; exact absurd k h
      · rintro ⟨a, b, c⟩
        refine absurd (exE_iff.2 ⟨a x (by simp), fun e he hk => ?_, (last_iff hs).2 fun y hy => (Srt.app.1 c).2.2 y hy x (by simp)⟩) h
        rw [List.map_append, List.nodup_append] at b
        exact b.2.2 e.key (List.mem_map.2 ⟨e, he, rfl⟩) x.key (by simp) hk
/-- A book that may be. -/
structure Good (b : Bk) : Prop where
  acs : acE b.acs = 0
  shut : b.shut = -1 ∨ dyB b.shut = true
  many : b.ens.length ≤ 60
  each : ∀ x ∈ b.ens, OkE b.acs x
  keys : (b.ens.map Et.key).Nodup
  srt : Srt b.ens
theorem bkE_iff {b : Bk} : bkE b = 0 ↔ Good b := by
  unfold bkE
  by_cases h1 : acE b.acs = 0
  · rw [if_pos h1]
    by_cases h2 : b.shut = -1 ∨ dyB b.shut = true
    · rw [if_pos h2]
      by_cases h3 : 60 < b.ens.length
      · rw [if_pos h3]; constructor
        · intro h; omega
        · intro h; have := h.many; omega
      · rw [if_neg h3, exsE_iff b.ens [] trivial List.nodup_nil]
        constructor
        · rintro ⟨a, c, d⟩; exact ⟨h1, h2, by omega, a, c, d⟩
        · intro h; exact ⟨h.each, h.keys, h.srt⟩
    · rw [if_neg h2]; constructor
      · intro h; omega
      · intro h; exact absurd h.shut h2
  · rw [if_neg h1]; constructor
    · intro h; exact absurd h h1
    · intro h; exact absurd h.acs h1
theorem nodup_inj : ∀ {l : List Et}, (l.map Et.key).Nodup → ∀ {x y : Et}, x ∈ l → y ∈ l → x.key = y.key → x = y
  | [], _, _, _, hx, _, _ => by simp at hx
  | z :: r, hn, x, y, hx, hy, e => by
    rw [List.map_cons, List.nodup_cons] at hn
    rcases List.mem_cons.1 hx with hx1 | hx1
    · rcases List.mem_cons.1 hy with hy1 | hy1
      · rw [hx1, hy1]
      · exact absurd (List.mem_map.2 ⟨y, hy1, by rw [← e, hx1]⟩) hn.1
    · rcases List.mem_cons.1 hy with hy1 | hy1
      · exact absurd (List.mem_map.2 ⟨x, hx1, by rw [e, hy1]⟩) hn.1
      · exact nodup_inj hn.2 hx1 hy1 e
theorem Good.key_inj {b : Bk} (h : Good b) {x y : Et} (hx : x ∈ b.ens) (hy : y ∈ b.ens) (e : x.key = y.key) : x = y := nodup_inj h.keys hx hy e

/-! P35. -/
/-- The place of a new entry. -/
def plI (x : Et) (l : List Et) : Nat := l.findIdx fun e => befB x e
/-- A list with one entry more, in its place. -/
def insE (x : Et) (l : List Et) : List Et := l.take (plI x l) ++ x :: l.drop (plI x l)
theorem plI_le (x : Et) (l : List Et) : plI x l ≤ l.length := List.findIdx_le_length
theorem insE_mem {x y : Et} {l : List Et} : y ∈ insE x l ↔ y = x ∨ y ∈ l := by
  unfold insE
  rw [List.mem_append, List.mem_cons]
  constructor
  · rintro (h | h | h)
    · exact .inr (List.mem_of_mem_take h)
    · exact .inl h
    · exact .inr (List.mem_of_mem_drop h)
  · rintro (h | h)
    · exact .inr (.inl h)
    · rw [← List.take_append_drop (plI x l) l, List.mem_append] at h
      rcases h with h | h
      · exact .inl h
      · exact .inr (.inr h)
theorem insE_perm (x : Et) (l : List Et) : (insE x l).Perm (x :: l) := by
  unfold insE
  refine List.perm_middle.trans ?_
  rw [List.take_append_drop]
theorem insE_len (x : Et) (l : List Et) : (insE x l).length = l.length + 1 := (insE_perm x l).length_eq
theorem insE_srt {x : Et} {l : List Et} (h : Srt l) (hk : ∀ e ∈ l, e.key ≠ x.key) : Srt (insE x l) := by
  have hl := h
  rw [← List.take_append_drop (plI x l) l, Srt.app] at hl
  have a : ∀ y ∈ l.take (plI x l), befB y x = true := fun y hy => by
    obtain ⟨i, hi, rfl⟩ := List.mem_iff_getElem.1 hy
    rw [List.length_take] at hi
    rw [List.getElem_take]
    have := List.not_of_lt_findIdx (p := fun e => befB x e) (xs := l) (i := i) (by unfold plI at hi; omega)
    exact bef_tot (by simpa using this) (fun e => hk _ (List.getElem_mem _) e.symm)
  have c : ∀ y ∈ l.drop (plI x l), befB x y = true := fun y hy => by
    by_cases hp : plI x l < l.length
    · have hf : befB x l[plI x l] = true := List.findIdx_getElem (p := fun e => befB x e) (w := hp)
      rw [List.drop_eq_getElem_cons hp] at hy hl
      rcases List.mem_cons.1 hy with rfl | hy
      · exact hf
      · exact bef_tr hf (hl.2.1.1 y hy)
    · rw [List.drop_of_length_le (by omega)] at hy; cases hy
  unfold insE
  refine Srt.app.2 ⟨hl.1, ⟨c, hl.2.1⟩, fun y hy z hz => ?_⟩
  rcases List.mem_cons.1 hz with rfl | hz
  · exact a y hy
  · exact hl.2.2 y hy z hz
/-- The place of a key. -/
def kyI (k : ByteArray) (l : List Et) : Nat := l.findIdx fun e => e.key.toList == k.toList
theorem kyI_lt {k : ByteArray} {l : List Et} : kyI k l < l.length ↔ ∃ e ∈ l, e.key = k := by
  unfold kyI
  rw [List.findIdx_lt_length]
  constructor
  · rintro ⟨e, h1, h2⟩; exact ⟨e, h1, ba_ext (beq_iff_eq.1 h2)⟩
  · rintro ⟨e, h1, rfl⟩; exact ⟨e, h1, by simp⟩
theorem kyI_at {k : ByteArray} {l : List Et} (h : kyI k l < l.length) : (l[kyI k l]).key = k := by
  have := List.findIdx_getElem (p := fun e : Et => e.key.toList == k.toList) (w := h)
  exact ba_ext (beq_iff_eq.1 this)
/-- The error of a new entry. -/
def nwE (b : Bk) (x : Et) : Int := if allA b.acs x.lns = true then (if x.day ≤ b.shut then 9 else if 60 ≤ b.ens.length then 2 else 0) else 4
/-- P35: the error, and the book. -/
def poE (b : Bk) (x : Et) : Int :=
  if bkE b = 0 then (if enE x.key x.day x.lns = 0 then (if h : kyI x.key b.ens < b.ens.length then (if smB b.ens[kyI x.key b.ens] x = true then 0 else 5) else nwE b x) else enE x.key x.day x.lns) else bkE b
def poV (b : Bk) (x : Et) : Bk := if kyI x.key b.ens < b.ens.length then b else ⟨b.acs, insE x b.ens, b.shut⟩
/-- What a posting comes to: the entry is there, or new. -/
theorem poE_ok {b : Bk} {x : Et} (h : poE b x = 0) : Good b ∧ enE x.key x.day x.lns = 0 ∧
    ((x ∈ b.ens ∧ poV b x = b) ∨ ((∀ e ∈ b.ens, e.key ≠ x.key) ∧ OkE b.acs x ∧ b.shut < x.day ∧ b.ens.length < 60 ∧ poV b x = ⟨b.acs, insE x b.ens, b.shut⟩)) := by
  unfold poE at h
  by_cases h1 : bkE b = 0
  · rw [if_pos h1] at h
    by_cases h2 : enE x.key x.day x.lns = 0
    · rw [if_pos h2] at h
      refine ⟨bkE_iff.1 h1, h2, ?_⟩
      by_cases h3 : kyI x.key b.ens < b.ens.length
      · rw [dif_pos h3] at h
        by_cases h4 : smB b.ens[kyI x.key b.ens] x = true
        · refine .inl ⟨?_, by unfold poV; rw [if_pos h3]⟩
          rw [← (smB_iff _ _).1 h4]; exact List.getElem_mem _
        · rw [if_neg h4] at h; omega
      · rw [dif_neg h3] at h
        unfold nwE at h
        split at h
        · rename_i a
          split at h
          · omega
          · split at h
            · omega
            · exact .inr ⟨fun e he hk => h3 (kyI_lt.2 ⟨e, he, hk⟩), ⟨h2, allA_iff.1 a⟩, by omega, by omega, by unfold poV; rw [if_neg h3]⟩
        · omega
    · rw [if_neg h2] at h; exact absurd h h2
  · rw [if_neg h1] at h; exact absurd h h1
theorem Good.post {b : Bk} {x : Et} (h : poE b x = 0) : Good (poV b x) ∧ x ∈ (poV b x).ens ∧ (poV b x).acs = b.acs ∧ (poV b x).shut = b.shut ∧ (∀ y, y ∈ (poV b x).ens ↔ y = x ∨ y ∈ b.ens) := by
  obtain ⟨g, he, (⟨hm, e⟩ | ⟨hk, ho, hs, hl, e⟩)⟩ := poE_ok h
  · rw [e]; exact ⟨g, hm, rfl, rfl, fun y => ⟨.inr, fun h => h.elim (fun e => e ▸ hm) id⟩⟩
  · rw [e]
    refine ⟨⟨g.acs, g.shut, by rw [insE_len]; omega, fun y hy => ?_, ?_, insE_srt g.srt hk⟩, insE_mem.2 (.inl rfl), rfl, rfl, fun y => insE_mem⟩
    · rcases insE_mem.1 hy with rfl | hy
      · exact ho
      · exact g.each y hy
    · have p := (insE_perm x b.ens).map Et.key
      rw [p.nodup_iff, List.map_cons, List.nodup_cons]
      refine ⟨fun hx => ?_, g.keys⟩
      obtain ⟨e', h1, h2⟩ := List.mem_map.1 hx
      exact hk e' h1 h2
/-- An entry that is there, or may come: it is posted. -/
theorem poE_mem {b : Bk} {x : Et} (g : Good b) (hm : x ∈ b.ens) : poE b x = 0 ∧ poV b x = b := by
  have h3 : kyI x.key b.ens < b.ens.length := kyI_lt.2 ⟨x, hm, rfl⟩
  have e : b.ens[kyI x.key b.ens] = x := g.key_inj (List.getElem_mem _) hm (kyI_at h3)
  refine ⟨?_, by unfold poV; rw [if_pos h3]⟩
  unfold poE
  rw [if_pos (bkE_iff.2 g), if_pos (g.each x hm).1, dif_pos h3, if_pos ((smB_iff _ _).2 e)]
theorem poE_new {b : Bk} {x : Et} (g : Good b) (ho : OkE b.acs x) (hk : ∀ e ∈ b.ens, e.key ≠ x.key) (hs : b.shut < x.day) (hl : b.ens.length < 60) : poE b x = 0 := by
  have h3 : ¬ kyI x.key b.ens < b.ens.length := fun h => by
    obtain ⟨e, h1, h2⟩ := kyI_lt.1 h
    exact hk e h1 h2
  unfold poE
  rw [if_pos (bkE_iff.2 g), if_pos ho.1, dif_neg h3]
  unfold nwE
  rw [if_pos (allA_iff.2 ho.2), if_neg (by omega), if_neg (by omega)]

/-! P37. -/
/-- The sum of lines with a code. -/
def codeS (c : ByteArray) : List Pr → Int
  | [] => 0
  | x :: r => (if isB c x = true then x.2 else 0) + codeS c r
theorem codeS_append (c : ByteArray) : ∀ l m : List Pr, codeS c (l ++ m) = codeS c l + codeS c m
  | [], m => by simp [codeS]
  | x :: r, m => by rw [List.cons_append, codeS, codeS, codeS_append c r m]; omega
/-- The sum of all of them in entries. -/
def allS (c : ByteArray) : List Et → Int
  | [] => 0
  | e :: r => codeS c e.lns + allS c r
theorem allS_append (c : ByteArray) : ∀ l m : List Et, allS c (l ++ m) = allS c l + allS c m
  | [], m => by simp [allS]
  | x :: r, m => by rw [List.cons_append, allS, allS, allS_append c r m]; omega
/-- A balance. -/
def balS (c : ByteArray) (d : Int) (l : List Et) : Int := allS c (l.filter fun e => decide (e.day ≤ d))
/-- How many entries are of days up to a day. -/
def ltI (d : Int) (l : List Et) : Nat := l.findIdx fun e => decide (d < e.day)
theorem Srt.days {x : Et} {r : List Et} (h : Srt (x :: r)) : ∀ y ∈ r, x.day ≤ y.day := fun y hy => by
  rcases bef_iff.1 (h.1 y hy) with k | k <;> omega
theorem ltI_take (c : ByteArray) (d : Int) : ∀ l : List Et, Srt l → allS c (l.take (ltI d l)) = balS c d l
  | [], _ => rfl
  | x :: r, h => by
    unfold balS ltI
    rw [List.findIdx_cons]
    by_cases k : d < x.day
    · have e : r.filter (fun e => decide (e.day ≤ d)) = [] := by
        rw [List.filter_eq_nil_iff]
        intro y hy
        have := h.days y hy
        simp; omega
      have k2 : decide (x.day ≤ d) = false := decide_eq_false (by omega)
      rw [decide_eq_true k, List.filter_cons, k2, e]
      rfl
    · have ih := ltI_take c d r h.2
      unfold balS ltI at ih
      have k2 : decide (x.day ≤ d) = true := decide_eq_true (by omega)
      rw [decide_eq_false k, List.filter_cons, k2, if_pos rfl, cond_false, List.take_succ_cons, allS, allS, ih]
theorem balS_perm {c : ByteArray} {d : Int} {l m : List Et} (h : l.Perm m) : balS c d l = balS c d m := by
  have aux : ∀ {l m : List Et}, l.Perm m → allS c l = allS c m := by
    intro l m h
    induction h with
    | nil => rfl
    | cons x _ ih => rw [allS, allS, ih]
    | swap x y l => rw [allS, allS, allS, allS]; omega
    | trans _ _ a b => exact a.trans b
  exact aux (h.filter _)
theorem balS_ins (c : ByteArray) (d : Int) (x : Et) (l : List Et) : balS c d (insE x l) = balS c d l + if x.day ≤ d then codeS c x.lns else 0 := by
  rw [balS_perm (insE_perm x l)]
  unfold balS
  rw [List.filter_cons]
  by_cases h : x.day ≤ d
  · rw [decide_eq_true h, if_pos rfl, if_pos h, allS]; omega
  · rw [decide_eq_false h, if_neg (by simp), if_neg h]; simp
end Go.Proofs.Ytdgiljndoeldcaa
