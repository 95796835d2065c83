import Derived.Test.YtbaahnafmfjpaaaGreatDoorHWalkH
/-
  The walk of talkeep.BookZero: it returns true at every input. No condition but those that each theorem names.
-/
namespace Go.Proofs.YtbaahnafmfjpaaaGreatDoor
open Go.RowKit
set_option linter.unusedVariables false

/-- A sum over accounts. -/
def sumF (f : ByteArray → Int) : List Pr → Int
  | [] => 0
  | a :: r => f a.1 + sumF f r
theorem sumF_snoc (f : ByteArray → Int) : ∀ (l : List Pr) (x : Pr), sumF f (l ++ [x]) = sumF f l + f x.1
  | [], x => by simp [sumF]
  | a :: r, x => by rw [List.cons_append, sumF, sumF, sumF_snoc f r x]; omega
theorem sumF_add (f g : ByteArray → Int) : ∀ l : List Pr, sumF (fun c => f c + g c) l = sumF f l + sumF g l
  | [] => rfl
  | a :: r => by rw [sumF, sumF, sumF, sumF_add f g r]; omega
theorem sumF_none {f : ByteArray → Int} : ∀ {l : List Pr}, (∀ a ∈ l, f a.1 = 0) → sumF f l = 0
  | [], _ => rfl
  | a :: r, h => by rw [sumF, h a (by simp), sumF_none fun b hb => h b (by simp [hb])]; rfl
theorem sumF_one {c : ByteArray} {v : Int} : ∀ {l : List Pr}, (l.map Prod.fst).Nodup → (∃ a ∈ l, a.1 = c) → sumF (fun k => if isB k (c, v) = true then v else 0) l = v
  | [], _, ⟨_, h, _⟩ => by simp at h
  | a :: r, hn, h => by
    rw [List.map_cons, List.nodup_cons] at hn
    rw [sumF]
    by_cases e : a.1 = c
    · have z : sumF (fun k => if isB k (c, v) = true then v else 0) r = 0 := sumF_none fun b hb => by
        rw [if_neg]
        intro hi
        have : c = b.1 := isB_iff.1 hi
        exact hn.1 (List.mem_map.2 ⟨b, hb, by rw [← this, e]⟩)
      rw [z, if_pos (isB_iff.2 e.symm)]; omega
    · have hr : ∃ a ∈ r, a.1 = c := by
        obtain ⟨b, hb, hc⟩ := h
        rcases List.mem_cons.1 hb with rfl | hb
        · exact absurd hc e
        · exact ⟨b, hb, hc⟩
      rw [sumF_one hn.2 hr, if_neg (fun hi => e (show a.1 = c from (isB_iff.1 hi).symm))]; omega
theorem sumF_lines {acs : List Pr} (hn : (acs.map Prod.fst).Nodup) : ∀ {l : List Pr}, (∀ y ∈ l, hasB y.1 acs = true) → sumF (fun k => codeS k l) acs = sumL l
  | [], _ => sumF_none fun a _ => rfl
  | x :: r, h => by
    have e : (fun k => codeS k (x :: r)) = fun k => (if isB k (x.1, x.2) = true then x.2 else 0) + codeS k r := rfl
    rw [e, sumF_add (fun k => if isB k (x.1, x.2) = true then x.2 else 0) (fun k => codeS k r), sumF_one hn (hasB_iff.1 (h x (by simp))), sumF_lines hn fun y hy => h y (by simp [hy]), sumL]
theorem sumF_ens {acs : List Pr} (hn : (acs.map Prod.fst).Nodup) : ∀ {l : List Et}, (∀ e ∈ l, OkE acs e) → sumF (fun k => allS k l) acs = 0
  | [], _ => sumF_none fun a _ => rfl
  | x :: r, h => by
    have e : (fun k => allS k (x :: r)) = fun k => codeS k x.lns + allS k r := rfl
    obtain ⟨ok, hs⟩ := h x (by simp)
    rw [e, sumF_add (fun k => codeS k x.lns) (fun k => allS k r), sumF_lines hn hs, sumF_ens hn fun y hy => h y (by simp [hy]), (enE_ok ok).2.2.2.2]; rfl
theorem inc_nodup : ∀ {l : List ByteArray}, Inc l → l.Nodup
  | [], _ => List.nodup_nil
  | a :: r, h => List.nodup_cons.2 ⟨(fun hm => absurd (h.1 a hm) (by rw [lt_irr]; simp)), inc_nodup h.2⟩
theorem book_zero {b : Bk} (g : Good b) (d : Int) : sumF (fun k => balS k d b.ens) b.acs = 0 :=
  sumF_ens (inc_nodup (acE_inc g.acs).1) (l := b.ens.filter fun e => decide (e.day ≤ d)) fun e he => g.each e ((List.mem_filter.1 he).1)
theorem Good.ba {b : Bk} (g : Good b) {c : ByteArray} {d : Int} (hc : hasB c b.acs = true) (hd : dyB d = true) : baE b c d = 0 := by unfold baE; rw [if_pos (bkE_iff.2 g), if_pos hc, if_pos hd]
theorem bal_bd {b : Bk} (g : Good b) (c : ByteArray) (d : Int) : -720000000000000 ≤ balS c d b.ens ∧ balS c d b.ens ≤ 720000000000000 := by
  have h := allS_bd (c := c) (l := b.ens.filter fun e => decide (e.day ≤ d)) fun x hx => (g.each x ((List.mem_filter.1 hx).1)).bd
  have hl : (b.ens.filter fun e => decide (e.day ≤ d)).length ≤ 60 := Nat.le_trans (List.length_filter_le _ _) g.many
  unfold balS
  omega
theorem sumF_bd {f : ByteArray → Int} (h : ∀ c, -720000000000000 ≤ f c ∧ f c ≤ 720000000000000) : ∀ l : List Pr, -720000000000000 * (l.length : Int) ≤ sumF f l ∧ sumF f l ≤ 720000000000000 * (l.length : Int)
  | [] => by simp [sumF]
  | a :: r => by
    have := sumF_bd h r
    have := h a.1
    rw [sumF, List.length_cons]
    constructor <;> omega
end Go.Proofs.YtbaahnafmfjpaaaGreatDoor

/-
  Sums by kinds of accounts: what lines of a kind come to, in entries of some days. No condition but those that each theorem names.
-/
namespace Go.Proofs.YtbaahnafmfjpaaaGreatDoor
set_option linter.unusedVariables false

/-- An account's kind. -/
def kiV (acs : List Pr) (c : ByteArray) : Int := kdV (acs.filter (isB c))
/-- What lines of a kind come to. -/
def kinL (acs : List Pr) (k : Int) : List Pr → Int
  | [] => 0
  | x :: r => (if kiV acs x.1 = k then x.2 else 0) + kinL acs k r
theorem kinL_append (acs : List Pr) (k : Int) : ∀ l m : List Pr, kinL acs k (l ++ m) = kinL acs k l + kinL acs k m
  | [], m => by simp [kinL]
  | x :: r, m => by rw [List.cons_append, kinL, kinL, kinL_append acs k r m]; omega
theorem kinL_snoc {acs : List Pr} {k : Int} {l : List Pr} {j : Nat} (h : j < l.length) : kinL acs k (l.take (j + 1)) = kinL acs k (l.take j) + (if kiV acs (l[j]).1 = k then (l[j]).2 else 0) := by
  rw [List.take_succ_eq_append_getElem h, kinL_append]; simp [kinL]
theorem kinL_bd {acs : List Pr} {k : Int} : ∀ {l : List Pr}, (∀ x ∈ l, -1000000000000 ≤ x.2 ∧ x.2 ≤ 1000000000000) → -1000000000000 * (l.length : Int) ≤ kinL acs k l ∧ kinL acs k l ≤ 1000000000000 * (l.length : Int)
  | [], _ => by simp [kinL]
  | x :: r, h => by
    obtain ⟨a, b⟩ := kinL_bd (acs := acs) (k := k) (l := r) fun y hy => h y (by simp [hy])
    obtain ⟨d, e⟩ := h x (by simp)
    rw [kinL, List.length_cons]
    split <;> constructor <;> omega
/-- .. all of them in entries. -/
def kinE (acs : List Pr) (k : Int) : List Et → Int
  | [] => 0
  | e :: r => kinL acs k e.lns + kinE acs k r
theorem kinE_append (acs : List Pr) (k : Int) : ∀ l m : List Et, kinE acs k (l ++ m) = kinE acs k l + kinE acs k m
  | [], m => by simp [kinE]
  | x :: r, m => by rw [List.cons_append, kinE, kinE, kinE_append acs k r m]; omega
theorem kinE_bd {acs : List Pr} {k : Int} : ∀ {l : List Et}, (∀ x ∈ l, x.lns.length ≤ 12 ∧ ∀ y ∈ x.lns, -1000000000000 ≤ y.2 ∧ y.2 ≤ 1000000000000) → -12000000000000 * (l.length : Int) ≤ kinE acs k l ∧ kinE acs k l ≤ 12000000000000 * (l.length : Int)
  | [], _ => by simp [kinE]
  | x :: r, h => by
    obtain ⟨a, b⟩ := kinE_bd (acs := acs) (k := k) (l := r) fun y hy => h y (by simp [hy])
    obtain ⟨d, e⟩ := h x (by simp)
    obtain ⟨f, g⟩ := kinL_bd (acs := acs) (k := k) e
    rw [kinE, List.length_cons]
    constructor <;> omega
theorem kinE_perm {acs : List Pr} {k : Int} {l m : List Et} (h : l.Perm m) : kinE acs k l = kinE acs k m := by
  induction h with
  | nil => rfl
  | cons x _ ih => rw [kinE, kinE, ih]
  | swap x y l => rw [kinE, kinE, kinE, kinE]; omega
  | trans _ _ a b => exact a.trans b
/-- Is an entry of these days? -/
def inD (f t : Int) (e : Et) : Bool := decide (f ≤ e.day) && decide (e.day ≤ t)
theorem inD_iff {f t : Int} {e : Et} : inD f t e = true ↔ f ≤ e.day ∧ e.day ≤ t := by unfold inD; simp
/-- What lines of a kind come to, in entries of some days. -/
def kinS (acs : List Pr) (k f t : Int) (l : List Et) : Int := kinE acs k (l.filter (inD f t))
theorem kinS_snoc {acs : List Pr} {k f t : Int} {l : List Et} {j : Nat} (h : j < l.length) : kinS acs k f t (l.take (j + 1)) = kinS acs k f t (l.take j) + (if inD f t l[j] = true then kinL acs k (l[j]).lns else 0) := by
  unfold kinS
  rw [List.take_succ_eq_append_getElem h, List.filter_append, kinE_append]
  cases e : inD f t l[j] <;> simp [e, kinE]
theorem kinS_bd {acs : List Pr} {k f t : Int} {l : List Et} (hn : l.length ≤ 60) (h : ∀ x ∈ l, x.lns.length ≤ 12 ∧ ∀ y ∈ x.lns, -1000000000000 ≤ y.2 ∧ y.2 ≤ 1000000000000) : -720000000000000 ≤ kinS acs k f t l ∧ kinS acs k f t l ≤ 720000000000000 := by
  have h1 := kinE_bd (acs := acs) (k := k) (l := l.filter (inD f t)) fun x hx => h x (List.mem_filter.1 hx).1
  have h2 : (l.filter (inD f t)).length ≤ 60 := Nat.le_trans (List.length_filter_le _ _) hn
  unfold kinS
  omega
theorem kinS_perm {acs : List Pr} {k f t : Int} {l m : List Et} (h : l.Perm m) : kinS acs k f t l = kinS acs k f t m := kinE_perm (h.filter _)
/-- Two periods, one behind the other. -/
theorem kinS_parts {acs : List Pr} {k f m t : Int} (h1 : f ≤ m + 1) (h2 : m ≤ t) : ∀ l : List Et, kinS acs k f m l + kinS acs k (m + 1) t l = kinS acs k f t l
  | [] => rfl
  | x :: r => by
    have ih := kinS_parts (acs := acs) (k := k) h1 h2 r
    unfold kinS at *
    rw [List.filter_cons, List.filter_cons, List.filter_cons]
    by_cases a : f ≤ x.day
    · by_cases c : x.day ≤ m
      · have e1 : inD f m x = true := inD_iff.2 ⟨a, c⟩
        have e2 : inD (m + 1) t x = false := by unfold inD; simp; omega
        have e3 : inD f t x = true := inD_iff.2 ⟨a, by omega⟩
        rw [e1, e2, e3, if_pos rfl, if_neg (by simp), if_pos rfl, kinE, kinE]; omega
      · have e1 : inD f m x = false := by unfold inD; simp; omega
        by_cases d : x.day ≤ t
        · have e2 : inD (m + 1) t x = true := inD_iff.2 ⟨by omega, d⟩
          have e3 : inD f t x = true := inD_iff.2 ⟨a, d⟩
          rw [e1, e2, e3, if_neg (by simp), if_pos rfl, if_pos rfl, kinE, kinE]; omega
        · have e2 : inD (m + 1) t x = false := by unfold inD; simp; omega
          have e3 : inD f t x = false := by unfold inD; simp; omega
          rw [e1, e2, e3, if_neg (by simp), if_neg (by simp), if_neg (by simp)]; exact ih
    · have e1 : inD f m x = false := by unfold inD; simp; omega
      have e2 : inD (m + 1) t x = false := by unfold inD; simp; omega
      have e3 : inD f t x = false := by unfold inD; simp; omega
      rw [e1, e2, e3, if_neg (by simp), if_neg (by simp), if_neg (by simp)]; exact ih
/-- The kinds of a good book's accounts. -/
theorem kiV_bd {acs : List Pr} (h : acE acs = 0) {c : ByteArray} (hc : hasB c acs = true) : 0 ≤ kiV acs c ∧ kiV acs c ≤ 4 := by
  obtain ⟨y, hy, e⟩ := hasB_iff.1 hc
  unfold kiV
  have hm : y ∈ acs.filter (isB c) := List.mem_filter.2 ⟨hy, isB_iff.2 e⟩
  cases hf : acs.filter (isB c) with
  | nil => rw [hf] at hm; cases hm
  | cons z r =>
    have hz : z ∈ acs.filter (isB c) := by rw [hf]; simp
    exact ((acE_inc h).2 z (List.mem_filter.1 hz).1).2
theorem kiV_at {acs : List Pr} (hn : (acs.map Prod.fst).Nodup) : ∀ a ∈ acs, kiV acs a.1 = a.2 := by
  intro a ha
  unfold kiV
  induction acs with
  | nil => cases ha
  | cons x r ih =>
    rw [List.map_cons, List.nodup_cons] at hn
    rw [List.filter_cons]
    rcases List.mem_cons.1 ha with rfl | ha
    · rw [if_pos (isB_iff.2 rfl)]; rfl
    · rw [if_neg (fun h => hn.1 (List.mem_map.2 ⟨a, ha, (isB_iff.1 h).symm⟩))]
      exact ih hn.2 ha
/-- All kinds together. -/
theorem kin_all {acs : List Pr} : ∀ {l : List Pr}, (∀ x ∈ l, 0 ≤ kiV acs x.1 ∧ kiV acs x.1 ≤ 4) → kinL acs 0 l + kinL acs 1 l + kinL acs 2 l + kinL acs 3 l + kinL acs 4 l = sumL l
  | [], _ => rfl
  | x :: r, h => by
    have ih := kin_all (acs := acs) (l := r) fun y hy => h y (by simp [hy])
    obtain ⟨h0, h4⟩ := h x (by simp)
    rw [kinL, kinL, kinL, kinL, kinL, sumL]
    generalize kiV acs x.1 = k at *
    rcases (by omega : k = 0 ∨ k = 1 ∨ k = 2 ∨ k = 3 ∨ k = 4) with rfl | rfl | rfl | rfl | rfl <;> simp <;> omega
theorem kinE_all {acs : List Pr} (ha : acE acs = 0) : ∀ {l : List Et}, (∀ e ∈ l, OkE acs e) → kinE acs 0 l + kinE acs 1 l + kinE acs 2 l + kinE acs 3 l + kinE acs 4 l = 0
  | [], _ => rfl
  | e :: r, h => by
    have ih := kinE_all ha (l := r) fun y hy => h y (by simp [hy])
    obtain ⟨ok, hs⟩ := h e (by simp)
    have h1 := kin_all (acs := acs) (l := e.lns) fun x hx => kiV_bd ha (hs x hx)
    rw [(enE_ok ok).2.2.2.2] at h1
    rw [kinE, kinE, kinE, kinE, kinE]
    omega
theorem Good.kin0 {b : Bk} (g : Good b) (f t : Int) : kinS b.acs 0 f t b.ens + kinS b.acs 1 f t b.ens + kinS b.acs 2 f t b.ens + kinS b.acs 3 f t b.ens + kinS b.acs 4 f t b.ens = 0 :=
  kinE_all g.acs fun e he => g.each e (List.mem_filter.1 he).1
theorem Good.kbd {b : Bk} (g : Good b) (k f t : Int) : -720000000000000 ≤ kinS b.acs k f t b.ens ∧ kinS b.acs k f t b.ens ≤ 720000000000000 :=
  kinS_bd g.many fun x hx => (g.each x hx).bd
/-- P39 to P41: the error of a period. -/
def tcE (b : Bk) (f t : Int) : Int := if bkE b = 0 then (if 0 ≤ f ∧ f ≤ t ∧ t ≤ 292193 then 0 else 1) else bkE b
theorem tcE_ok {b : Bk} {f t : Int} (h : tcE b f t = 0) : Good b ∧ 0 ≤ f ∧ f ≤ t ∧ t ≤ 292193 := by
  unfold tcE at h
  by_cases h1 : bkE b = 0
  · rw [if_pos h1] at h
    by_cases h2 : 0 ≤ f ∧ f ≤ t ∧ t ≤ 292193
    · exact ⟨bkE_iff.1 h1, h2⟩
    · rw [if_neg h2] at h; omega
  · rw [if_neg h1] at h; exact absurd h h1
theorem tcE_of {b : Bk} {f t : Int} (g : Good b) (h : 0 ≤ f ∧ f ≤ t ∧ t ≤ 292193) : tcE b f t = 0 := by unfold tcE; rw [if_pos (bkE_iff.2 g), if_pos h]
/-- Sums of what is above 0, and of what is below. -/
def upS (f : ByteArray → Int) : List Pr → Int
  | [] => 0
  | a :: r => max (f a.1) 0 + upS f r
def dnS (f : ByteArray → Int) : List Pr → Int
  | [] => 0
  | a :: r => max (-(f a.1)) 0 + dnS f r
theorem upS_snoc (f : ByteArray → Int) : ∀ (l : List Pr) (x : Pr), upS f (l ++ [x]) = upS f l + max (f x.1) 0
  | [], x => by simp [upS]
  | a :: r, x => by rw [List.cons_append, upS, upS, upS_snoc f r x]; omega
theorem dnS_snoc (f : ByteArray → Int) : ∀ (l : List Pr) (x : Pr), dnS f (l ++ [x]) = dnS f l + max (-(f x.1)) 0
  | [], x => by simp [dnS]
  | a :: r, x => by rw [List.cons_append, dnS, dnS, dnS_snoc f r x]; omega
theorem ud_sum (f : ByteArray → Int) : ∀ l : List Pr, upS f l - dnS f l = sumF f l ∧ 0 ≤ upS f l ∧ 0 ≤ dnS f l
  | [] => by simp [upS, dnS, sumF]
  | a :: r => by
    have := ud_sum f r
    rw [upS, dnS, sumF]; omega
theorem ud_bd {f : ByteArray → Int} (h : ∀ c, -720000000000000 ≤ f c ∧ f c ≤ 720000000000000) : ∀ l : List Pr, upS f l ≤ 720000000000000 * (l.length : Int) ∧ dnS f l ≤ 720000000000000 * (l.length : Int)
  | [] => by simp [upS, dnS]
  | a :: r => by
    have := ud_bd h r
    have := h a.1
    rw [upS, dnS, List.length_cons]
    constructor <;> omega
/-- .. of a good book's balances. -/
theorem Good.ud {b : Bk} (g : Good b) (d : Int) : upS (fun k => balS k d b.ens) b.acs = dnS (fun k => balS k d b.ens) b.acs := by
  have h := (ud_sum (fun k => balS k d b.ens) b.acs).1
  rw [book_zero g d] at h; omega
end Go.Proofs.YtbaahnafmfjpaaaGreatDoor
