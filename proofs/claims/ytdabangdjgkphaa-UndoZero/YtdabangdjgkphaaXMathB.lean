/-
  What closings and reversals do to balances. No condition but those that each theorem names.
-/
import Derived.Test.YtdabangdjgkphaaXMath
namespace Go.Proofs.Ytdabangdjgkphaa
set_option linter.unusedVariables false

theorem sumF_congr {f g : ByteArray → Int} : ∀ {l : List Pr}, (∀ a ∈ l, f a.1 = g a.1) → sumF f l = sumF g l
  | [], _ => rfl
  | a :: r, h => by rw [sumF, sumF, h a (by simp), sumF_congr fun b hb => h b (by simp [hb])]
/-- Lines of a kind, account by account. -/
theorem kinL_accts {acs : List Pr} {k : Int} (hn : (acs.map Prod.fst).Nodup) : ∀ {l : List Pr}, (∀ x ∈ l, hasB x.1 acs = true) → kinL acs k l = sumF (fun c => if kiV acs c = k then codeS c l else 0) acs
  | [], _ => (sumF_none fun a _ => by simp [codeS]).symm
  | x :: r, h => by
    have ih := kinL_accts (k := k) hn (l := r) fun y hy => h y (by simp [hy])
    have hx := hasB_iff.1 (h x (by simp))
    have e : (fun c => if kiV acs c = k then codeS c (x :: r) else 0) = fun c => (if isB c (x.1, if kiV acs x.1 = k then x.2 else 0) = true then (if kiV acs x.1 = k then x.2 else 0) else 0) + (if kiV acs c = k then codeS c r else 0) := by
      funext c
      rw [codeS]
      by_cases hc : x.1 = c
      · have h1 : isB c x = true := isB_iff.2 hc
        have h2 : isB c (x.1, if kiV acs x.1 = k then x.2 else 0) = true := isB_iff.2 hc
        rw [if_pos h1, if_pos h2, hc]
        split <;> simp
      · have h1 : ¬ isB c x = true := fun z => hc (isB_iff.1 z)
        have h2 : ¬ isB c (x.1, if kiV acs x.1 = k then x.2 else 0) = true := fun z => hc (isB_iff.1 z)
        rw [if_neg h1, if_neg h2]
        split <;> simp
    rw [kinL, ih, e, sumF_add (fun c => if isB c (x.1, if kiV acs x.1 = k then x.2 else 0) = true then (if kiV acs x.1 = k then x.2 else 0) else 0) (fun c => if kiV acs c = k then codeS c r else 0), sumF_one hn hx]
theorem kinE_accts {acs : List Pr} {k : Int} (hn : (acs.map Prod.fst).Nodup) : ∀ {l : List Et}, (∀ e ∈ l, OkE acs e) → kinE acs k l = sumF (fun c => if kiV acs c = k then allS c l else 0) acs
  | [], _ => (sumF_none fun a _ => by simp [allS]).symm
  | x :: r, h => by
    have ih := kinE_accts (k := k) hn (l := r) fun y hy => h y (by simp [hy])
    have e : (fun c => if kiV acs c = k then allS c (x :: r) else 0) = fun c => (if kiV acs c = k then codeS c x.lns else 0) + (if kiV acs c = k then allS c r else 0) := by
      funext c
      rw [allS]
      split <;> simp
    rw [kinE, ih, kinL_accts hn (h x (by simp)).2, e, sumF_add (fun c => if kiV acs c = k then codeS c x.lns else 0) (fun c => if kiV acs c = k then allS c r else 0)]
theorem Good.nodup {b : Bk} (g : Good b) : (b.acs.map Prod.fst).Nodup := inc_nodup (acE_inc g.acs).1
theorem OkE.day {acs : List Pr} {x : Et} (h : OkE acs x) : 0 ≤ x.day ∧ x.day ≤ 292193 := by
  have := (enE_ok h.1).1
  unfold hdE at this
  split at this
  · split at this
    · omega
    · omega
  · omega
/-- What a kind comes to up to a day, account by account. -/
theorem Good.kin_accts {b : Bk} (g : Good b) (k d : Int) : kinS b.acs k 0 d b.ens = sumF (fun c => if kiV b.acs c = k then baF b d c else 0) b.acs := by
  have e : b.ens.filter (inD 0 d) = b.ens.filter fun e => decide (e.day ≤ d) := by
    refine List.filter_congr fun x hx => ?_
    have := (g.each x hx).day.1
    unfold inD
    rw [decide_eq_true this, Bool.true_and]
  unfold kinS
  rw [e, kinE_accts g.nodup fun x hx => g.each x (List.mem_filter.1 hx).1]
  rfl
/-- The sum of the lines of income and expense. -/
theorem clL_sum {acs : List Pr} (ha : acE acs = 0) (hn : (acs.map Prod.fst).Nodup) (f : ByteArray → Int) : ∀ {l : List Pr}, (∀ a ∈ l, a ∈ acs) → sumL (clL f l) = -(sumF (fun c => if kiV acs c = 3 then f c else 0) l + sumF (fun c => if kiV acs c = 4 then f c else 0) l)
  | [], _ => rfl
  | a :: r, h => by
    have ih := clL_sum ha hn f (l := r) fun x hx => h x (by simp [hx])
    have hk := kiV_at hn a (h a (by simp))
    obtain ⟨_, h0, h4⟩ := (acE_inc ha).2 a (h a (by simp))
    rw [clL, sumL_append, ih, sumF, sumF, hk]
    unfold clO
    by_cases h3 : 3 ≤ a.2
    · by_cases hf : f a.1 = 0
      · rw [if_neg (fun z => z.2 hf), hf]
        simp only [sumL]
        split <;> split <;> omega
      · rw [if_pos ⟨h3, hf⟩]
        simp only [sumL]
        rcases (by omega : a.2 = 3 ∨ a.2 = 4) with e | e <;> simp [e] <;> omega
    · rw [if_neg (fun z => h3 z.1), if_neg (by omega), if_neg (by omega)]
      simp only [sumL]; omega
theorem Good.cl_sum {b : Bk} (g : Good b) (d : Int) : sumL (clL (baF b d) b.acs) = -(kinS b.acs 3 0 d b.ens + kinS b.acs 4 0 d b.ens) := by
  rw [clL_sum g.acs g.nodup (baF b d) (fun a h => h), g.kin_accts, g.kin_accts]
/-- One account's line. -/
theorem codeS_clL {f : ByteArray → Int} {c : ByteArray} : ∀ {l : List Pr}, (l.map Prod.fst).Nodup → ∀ {k : Int}, (c, k) ∈ l → codeS c (clL f l) = if 3 ≤ k then -(f c) else 0
  | [], _, _, h => by cases h
  | a :: r, hn, k, h => by
    rw [List.map_cons, List.nodup_cons] at hn
    have no : ∀ {m : List Pr}, (∀ x ∈ m, x.1 ≠ c) → codeS c m = 0 := by
      intro m hm
      induction m with
      | nil => rfl
      | cons y t ih => rw [codeS, ih fun x hx => hm x (by simp [hx]), if_neg (fun z => hm y (by simp) (isB_iff.1 z))]; rfl
    rw [clL, codeS_append]
    rcases List.mem_cons.1 h with e | e
    · subst e
      have z : codeS c (clL f r) = 0 := no fun x hx => by
        obtain ⟨y, hy, _, _, e⟩ := clL_mem.1 hx
        intro hc
        refine hn.1 (List.mem_map.2 ⟨y, hy, ?_⟩)
        rw [e] at hc; exact hc
      rw [z]
      unfold clO
      by_cases h3 : 3 ≤ k
      · rw [if_pos h3]
        by_cases hf : f c = 0
        · rw [if_neg (fun z => z.2 hf), hf]; rfl
        · rw [if_pos ⟨h3, hf⟩, codeS, if_pos (show isB c ((c, k).1, -f (c, k).1) = true from isB_iff.2 rfl)]; simp [codeS]
      · rw [if_neg h3, if_neg (fun z => h3 z.1)]; rfl
    · have hne : a.1 ≠ c := fun hc => hn.1 (List.mem_map.2 ⟨(c, k), e, hc.symm⟩)
      have z : codeS c (clO f a) = 0 := no fun x hx => by
        unfold clO at hx
        split at hx
        · rw [List.mem_singleton] at hx; rw [hx]; exact hne
        · cases hx
      rw [z, codeS_clL hn.2 e]; omega
theorem codeS_clA {f : ByteArray → Int} {c d : ByteArray} {l : List Pr} (hn : (l.map Prod.fst).Nodup) {k : Int} (h : (c, k) ∈ l) (hd : d ≠ c) : codeS c (clA f d l) = if 3 ≤ k then -(f c) else 0 := by
  unfold clA
  rw [codeS_append, codeS_clL hn h]
  have : codeS c (if sumL (clL f l) = 0 then [] else [(d, -(sumL (clL f l)))]) = 0 := by
    split
    · rfl
    · rw [codeS, if_neg (fun z => hd (isB_iff.1 z))]; rfl
  omega
/-- Lines of a kind in a closing. -/
theorem kin_clA {acs : List Pr} (ha : acE acs = 0) (hn : (acs.map Prod.fst).Nodup) {f : ByteArray → Int} {c : ByteArray} (hc : kiV acs c = 2) : kinL acs 0 (clA f c acs) = 0 ∧ kinL acs 1 (clA f c acs) = 0 ∧ kinL acs 2 (clA f c acs) = -(sumL (clL f acs)) := by
  have no : ∀ k : Int, k < 3 → ∀ {m : List Pr}, (∀ x ∈ m, 3 ≤ kiV acs x.1) → kinL acs k m = 0 := by
    intro k hk m hm
    induction m with
    | nil => rfl
    | cons y t ih =>
      have := hm y (by simp)
      rw [kinL, ih fun x hx => hm x (by simp [hx]), if_neg (by omega)]; rfl
  have hl : ∀ x ∈ clL f acs, 3 ≤ kiV acs x.1 := fun x hx => by
    obtain ⟨y, hy, h3, _, e⟩ := clL_mem.1 hx
    rw [e]; show 3 ≤ kiV acs y.1
    rw [kiV_at hn y hy]; exact h3
  unfold clA
  rw [kinL_append, kinL_append, kinL_append, no 0 (by omega) hl, no 1 (by omega) hl, no 2 (by omega) hl]
  by_cases h : sumL (clL f acs) = 0
  · rw [if_pos h, h]; exact ⟨rfl, rfl, rfl⟩
  · rw [if_neg h]; simp [kinL, hc]
/-- A new entry, in what a kind comes to. -/
theorem kinS_ins {acs : List Pr} {k f t : Int} (x : Et) (l : List Et) (h : inD f t x = true) : kinS acs k f t (insE x l) = kinS acs k f t l + kinL acs k x.lns := by
  rw [kinS_perm (insE_perm x l)]
  unfold kinS
  rw [List.filter_cons, if_pos h, kinE]; omega

/-! Closings. -/
/-- What a closing leaves. -/
structure Closed (b y : Bk) (k : ByteArray) (d : Int) (c : ByteArray) : Prop where
  good : Good y
  acs : y.acs = b.acs
  shut : y.shut = d
  old : (∃ e ∈ b.ens, e.key = k) → y.ens = b.ens
  new : (∀ e ∈ b.ens, e.key ≠ k) → y.ens = insE (clX b k d c) b.ens
theorem clE_closed {b : Bk} {k : ByteArray} {d : Int} {c : ByteArray} (h : clE b k d c = 0) : Closed b (clV b k d c) k d c := by
  obtain ⟨h1, h2, h3, h4⟩ := clE_ok h
  obtain ⟨g, _, ea, es, hm⟩ := Good.post h3
  obtain ⟨_, he, hor⟩ := poE_ok h3
  obtain ⟨_, dy, _⟩ := shE_ok h4
  refine ⟨⟨g.acs, .inr dy, g.many, g.each, g.keys, g.srt⟩, ea, rfl, ?_, ?_⟩
  · rintro ⟨e, he, hk⟩
    rcases hor with ⟨_, e1⟩ | ⟨hk2, _⟩
    · unfold clV; rw [e1]
    · exact absurd hk (hk2 e he)
  · intro hk
    rcases hor with ⟨hx, _⟩ | ⟨_, _, _, _, e1⟩
    · exact absurd rfl (hk _ hx)
    · unfold clV; rw [e1]
theorem Closed.bal {b y : Bk} {k : ByteArray} {d : Int} {c : ByteArray} (h : Closed b y k d c) (hk : ∀ e ∈ b.ens, e.key ≠ k) (o : ByteArray) (i : Int) : balS o i y.ens = balS o i b.ens + if d ≤ i then codeS o (clA (baF b d) c b.acs) else 0 := by
  rw [h.new hk, balS_ins]; rfl
/-- Nothing is left on accounts of income and expense. -/
theorem Closed.zero {b y : Bk} {k : ByteArray} {d : Int} {c : ByteArray} (h : Closed b y k d c) (g : Good b) (hc : kiV b.acs c = 2) (hk : ∀ e ∈ b.ens, e.key ≠ k) {a : Pr} (ha : a ∈ b.acs) (h3 : 3 ≤ a.2) : balS a.1 d y.ens = 0 := by
  have hd : c ≠ a.1 := fun e => by
    have := kiV_at g.nodup a ha
    rw [← e, hc] at this; omega
  rw [h.bal hk, if_pos (Int.le_refl _), codeS_clA g.nodup (k := a.2) ha hd, if_pos h3]
  unfold baF; omega
theorem Closed.none {b y : Bk} {k : ByteArray} {d : Int} {c : ByteArray} (h : Closed b y k d c) (g : Good b) (hc : kiV b.acs c = 2) (hk : ∀ e ∈ b.ens, e.key ≠ k) : clL (baF y d) y.acs = [] := by
  rw [h.acs, List.eq_nil_iff_forall_not_mem]
  intro x hx
  obtain ⟨a, ha, h3, hf, _⟩ := clL_mem.1 hx
  exact hf (h.zero g hc hk ha h3)
theorem Closed.kin {b y : Bk} {k : ByteArray} {d : Int} {c : ByteArray} (h : Closed b y k d c) (g : Good b) (hc : kiV b.acs c = 2) (dy : dyB d = true) (hk : ∀ e ∈ b.ens, e.key ≠ k) :
    kinS y.acs 0 0 d y.ens = kinS b.acs 0 0 d b.ens ∧ kinS y.acs 1 0 d y.ens = kinS b.acs 1 0 d b.ens ∧ kinS y.acs 2 0 d y.ens = kinS b.acs 2 0 d b.ens + (kinS b.acs 3 0 d b.ens + kinS b.acs 4 0 d b.ens) ∧ kinS y.acs 3 0 d y.ens + kinS y.acs 4 0 d y.ens = 0 := by
  obtain ⟨d0, d1⟩ := (dyB_iff d).1 dy
  have hin : inD 0 d (clX b k d c) = true := inD_iff.2 ⟨d0, Int.le_refl _⟩
  obtain ⟨k0, k1, k2⟩ := kin_clA g.acs g.nodup (f := baF b d) hc
  have S := g.cl_sum d
  have Z := h.good.kin0 0 d
  have Y := g.kin0 0 d
  have e : ∀ n, kinS y.acs n 0 d y.ens = kinS b.acs n 0 d b.ens + kinL b.acs n (clA (baF b d) c b.acs) := fun n => by
    rw [h.acs, h.new hk, kinS_ins _ _ hin]; rfl
  rw [e 0, k0, e 1, k1, e 2, k2, S]
  have e0 := e 0
  have e1 := e 1
  have e2 := e 2
  rw [k0] at e0
  rw [k1] at e1
  rw [k2, S] at e2
  refine ⟨by omega, by omega, by omega, by omega⟩

/-! Reversals. -/
theorem codeS_neg (c : ByteArray) : ∀ l : List Pr, codeS c (negL l) = -(codeS c l)
  | [] => rfl
  | x :: r => by
    have ih := codeS_neg c r
    have e : isB c (negP x) = isB c x := rfl
    show (if isB c (negP x) = true then (negP x).2 else 0) + codeS c (negL r) = _
    rw [ih, e, codeS]
    unfold negP
    split <;> simp <;> omega
theorem negL_negL (l : List Pr) : negL (negL l) = l := by
  unfold negL
  rw [List.map_map]
  conv => rhs; rw [← List.map_id l]
  refine List.map_congr_left fun x _ => ?_
  unfold negP; simp
end Go.Proofs.Ytdabangdjgkphaa
