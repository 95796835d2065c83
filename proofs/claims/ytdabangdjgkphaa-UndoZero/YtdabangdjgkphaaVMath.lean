/-
  Sums by kinds of accounts: what lines of a kind come to, in entries of some days. No condition but those that each theorem names.
-/
import Derived.Test.YtdabangdjgkphaaLawBookZero
namespace Go.Proofs.Ytdabangdjgkphaa
set_option linter.unusedVariables false

/-- An account's kind. -/
def kiV (acs : List Pr) (c : ByteArray) : Int := kdV (acs.filter (isB c))
/-- What lines of a kind come to. -/
def kinL (acs : List Pr) (k : Int) : List Pr → Int
  | [] => 0
  | x :: r => (if kiV acs x.1 = k then x.2 else 0) + kinL acs k r
theorem kinL_append (acs : List Pr) (k : Int) : ∀ l m : List Pr, kinL acs k (l ++ m) = kinL acs k l + kinL acs k m
  | [], m => by simp [kinL]
  | x :: r, m => by rw [List.cons_append, kinL, kinL, kinL_append acs k r m]; omega
theorem kinL_snoc {acs : List Pr} {k : Int} {l : List Pr} {j : Nat} (h : j < l.length) : kinL acs k (l.take (j + 1)) = kinL acs k (l.take j) + (if kiV acs (l[j]).1 = k then (l[j]).2 else 0) := by
  rw [List.take_succ_eq_append_getElem h, kinL_append]; simp [kinL]
theorem kinL_bd {acs : List Pr} {k : Int} : ∀ {l : List Pr}, (∀ x ∈ l, -1000000000000 ≤ x.2 ∧ x.2 ≤ 1000000000000) → -1000000000000 * (l.length : Int) ≤ kinL acs k l ∧ kinL acs k l ≤ 1000000000000 * (l.length : Int)
  | [], _ => by simp [kinL]
  | x :: r, h => by
    obtain ⟨a, b⟩ := kinL_bd (acs := acs) (k := k) (l := r) fun y hy => h y (by simp [hy])
    obtain ⟨d, e⟩ := h x (by simp)
    rw [kinL, List.length_cons]
    split <;> constructor <;> omega
/-- .. all of them in entries. -/
def kinE (acs : List Pr) (k : Int) : List Et → Int
  | [] => 0
  | e :: r => kinL acs k e.lns + kinE acs k r
theorem kinE_append (acs : List Pr) (k : Int) : ∀ l m : List Et, kinE acs k (l ++ m) = kinE acs k l + kinE acs k m
  | [], m => by simp [kinE]
  | x :: r, m => by rw [List.cons_append, kinE, kinE, kinE_append acs k r m]; omega
theorem kinE_bd {acs : List Pr} {k : Int} : ∀ {l : List Et}, (∀ x ∈ l, x.lns.length ≤ 12 ∧ ∀ y ∈ x.lns, -1000000000000 ≤ y.2 ∧ y.2 ≤ 1000000000000) → -12000000000000 * (l.length : Int) ≤ kinE acs k l ∧ kinE acs k l ≤ 12000000000000 * (l.length : Int)
  | [], _ => by simp [kinE]
  | x :: r, h => by
    obtain ⟨a, b⟩ := kinE_bd (acs := acs) (k := k) (l := r) fun y hy => h y (by simp [hy])
    obtain ⟨d, e⟩ := h x (by simp)
    obtain ⟨f, g⟩ := kinL_bd (acs := acs) (k := k) e
    rw [kinE, List.length_cons]
    constructor <;> omega
theorem kinE_perm {acs : List Pr} {k : Int} {l m : List Et} (h : l.Perm m) : kinE acs k l = kinE acs k m := by
  induction h with
  | nil => rfl
  | cons x _ ih => rw [kinE, kinE, ih]
  | swap x y l => rw [kinE, kinE, kinE, kinE]; omega
  | trans _ _ a b => exact a.trans b
/-- Is an entry of these days? -/
def inD (f t : Int) (e : Et) : Bool := decide (f ≤ e.day) && decide (e.day ≤ t)
theorem inD_iff {f t : Int} {e : Et} : inD f t e = true ↔ f ≤ e.day ∧ e.day ≤ t := by unfold inD; simp
/-- What lines of a kind come to, in entries of some days. -/
def kinS (acs : List Pr) (k f t : Int) (l : List Et) : Int := kinE acs k (l.filter (inD f t))
theorem kinS_snoc {acs : List Pr} {k f t : Int} {l : List Et} {j : Nat} (h : j < l.length) : kinS acs k f t (l.take (j + 1)) = kinS acs k f t (l.take j) + (if inD f t l[j] = true then kinL acs k (l[j]).lns else 0) := by
  unfold kinS
  rw [List.take_succ_eq_append_getElem h, List.filter_append, kinE_append]
  cases e : inD f t l[j] <;> simp [e, kinE]
theorem kinS_bd {acs : List Pr} {k f t : Int} {l : List Et} (hn : l.length ≤ 60) (h : ∀ x ∈ l, x.lns.length ≤ 12 ∧ ∀ y ∈ x.lns, -1000000000000 ≤ y.2 ∧ y.2 ≤ 1000000000000) : -720000000000000 ≤ kinS acs k f t l ∧ kinS acs k f t l ≤ 720000000000000 := by
  have h1 := kinE_bd (acs := acs) (k := k) (l := l.filter (inD f t)) fun x hx => h x (List.mem_filter.1 hx).1
  have h2 : (l.filter (inD f t)).length ≤ 60 := Nat.le_trans (List.length_filter_le _ _) hn
  unfold kinS
  omega
theorem kinS_perm {acs : List Pr} {k f t : Int} {l m : List Et} (h : l.Perm m) : kinS acs k f t l = kinS acs k f t m := kinE_perm (h.filter _)
/-- Two periods, one behind the other. -/
theorem kinS_parts {acs : List Pr} {k f m t : Int} (h1 : f ≤ m + 1) (h2 : m ≤ t) : ∀ l : List Et, kinS acs k f m l + kinS acs k (m + 1) t l = kinS acs k f t l
  | [] => rfl
  | x :: r => by
    have ih := kinS_parts (acs := acs) (k := k) h1 h2 r
    unfold kinS at *
    rw [List.filter_cons, List.filter_cons, List.filter_cons]
    by_cases a : f ≤ x.day
    · by_cases c : x.day ≤ m
      · have e1 : inD f m x = true := inD_iff.2 ⟨a, c⟩
        have e2 : inD (m + 1) t x = false := by unfold inD; simp; omega
        have e3 : inD f t x = true := inD_iff.2 ⟨a, by omega⟩
        rw [e1, e2, e3, if_pos rfl, if_neg (by simp), if_pos rfl, kinE, kinE]; omega
      · have e1 : inD f m x = false := by unfold inD; simp; omega
        by_cases d : x.day ≤ t
        · have e2 : inD (m + 1) t x = true := inD_iff.2 ⟨by omega, d⟩
          have e3 : inD f t x = true := inD_iff.2 ⟨a, d⟩
          rw [e1, e2, e3, if_neg (by simp), if_pos rfl, if_pos rfl, kinE, kinE]; omega
        · have e2 : inD (m + 1) t x = false := by unfold inD; simp; omega
          have e3 : inD f t x = false := by unfold inD; simp; omega
          rw [e1, e2, e3, if_neg (by simp), if_neg (by simp), if_neg (by simp)]; exact ih
    · have e1 : inD f m x = false := by unfold inD; simp; omega
      have e2 : inD (m + 1) t x = false := by unfold inD; simp; omega
      have e3 : inD f t x = false := by unfold inD; simp; omega
      rw [e1, e2, e3, if_neg (by simp), if_neg (by simp), if_neg (by simp)]; exact ih
/-- The kinds of a good book's accounts. -/
theorem kiV_bd {acs : List Pr} (h : acE acs = 0) {c : ByteArray} (hc : hasB c acs = true) : 0 ≤ kiV acs c ∧ kiV acs c ≤ 4 := by
  obtain ⟨y, hy, e⟩ := hasB_iff.1 hc
  unfold kiV
  have hm : y ∈ acs.filter (isB c) := List.mem_filter.2 ⟨hy, isB_iff.2 e⟩
  cases hf : acs.filter (isB c) with
  | nil => rw [hf] at hm; cases hm
  | cons z r =>
    have hz : z ∈ acs.filter (isB c) := by rw [hf]; simp
    exact ((acE_inc h).2 z (List.mem_filter.1 hz).1).2
theorem kiV_at {acs : List Pr} (hn : (acs.map Prod.fst).Nodup) : ∀ a ∈ acs, kiV acs a.1 = a.2 := by
  intro a ha
  unfold kiV
  induction acs with
  | nil => cases ha
  | cons x r ih =>
    rw [List.map_cons, List.nodup_cons] at hn
    rw [List.filter_cons]
    rcases List.mem_cons.1 ha with rfl | ha
    · rw [if_pos (isB_iff.2 rfl)]; rfl
    · rw [if_neg (fun h => hn.1 (List.mem_map.2 ⟨a, ha, (isB_iff.1 h).symm⟩))]
      exact ih hn.2 ha
/-- All kinds together. -/
theorem kin_all {acs : List Pr} : ∀ {l : List Pr}, (∀ x ∈ l, 0 ≤ kiV acs x.1 ∧ kiV acs x.1 ≤ 4) → kinL acs 0 l + kinL acs 1 l + kinL acs 2 l + kinL acs 3 l + kinL acs 4 l = sumL l
  | [], _ => rfl
  | x :: r, h => by
    have ih := kin_all (acs := acs) (l := r) fun y hy => h y (by simp [hy])
    obtain ⟨h0, h4⟩ := h x (by simp)
    rw [kinL, kinL, kinL, kinL, kinL, sumL]
    generalize kiV acs x.1 = k at *
    rcases (by omega : k = 0 ∨ k = 1 ∨ k = 2 ∨ k = 3 ∨ k = 4) with rfl | rfl | rfl | rfl | rfl <;> simp <;> omega
theorem kinE_all {acs : List Pr} (ha : acE acs = 0) : ∀ {l : List Et}, (∀ e ∈ l, OkE acs e) → kinE acs 0 l + kinE acs 1 l + kinE acs 2 l + kinE acs 3 l + kinE acs 4 l = 0
  | [], _ => rfl
  | e :: r, h => by
    have ih := kinE_all ha (l := r) fun y hy => h y (by simp [hy])
    obtain ⟨ok, hs⟩ := h e (by simp)
    have h1 := kin_all (acs := acs) (l := e.lns) fun x hx => kiV_bd ha (hs x hx)
    rw [(enE_ok ok).2.2.2.2] at h1
    rw [kinE, kinE, kinE, kinE, kinE]
    omega
theorem Good.kin0 {b : Bk} (g : Good b) (f t : Int) : kinS b.acs 0 f t b.ens + kinS b.acs 1 f t b.ens + kinS b.acs 2 f t b.ens + kinS b.acs 3 f t b.ens + kinS b.acs 4 f t b.ens = 0 :=
  kinE_all g.acs fun e he => g.each e (List.mem_filter.1 he).1
theorem Good.kbd {b : Bk} (g : Good b) (k f t : Int) : -720000000000000 ≤ kinS b.acs k f t b.ens ∧ kinS b.acs k f t b.ens ≤ 720000000000000 :=
  kinS_bd g.many fun x hx => (g.each x hx).bd
/-- P39 to P41: the error of a period. -/
def tcE (b : Bk) (f t : Int) : Int := if bkE b = 0 then (if 0 ≤ f ∧ f ≤ t ∧ t ≤ 292193 then 0 else 1) else bkE b
theorem tcE_ok {b : Bk} {f t : Int} (h : tcE b f t = 0) : Good b ∧ 0 ≤ f ∧ f ≤ t ∧ t ≤ 292193 := by
  unfold tcE at h
  by_cases h1 : bkE b = 0
  · rw [if_pos h1] at h
    by_cases h2 : 0 ≤ f ∧ f ≤ t ∧ t ≤ 292193
    · exact ⟨bkE_iff.1 h1, h2⟩
    · rw [if_neg h2] at h; omega
  · rw [if_neg h1] at h; exact absurd h h1
theorem tcE_of {b : Bk} {f t : Int} (g : Good b) (h : 0 ≤ f ∧ f ≤ t ∧ t ≤ 292193) : tcE b f t = 0 := by unfold tcE; rw [if_pos (bkE_iff.2 g), if_pos h]
/-- Sums of what is above 0, and of what is below. -/
def upS (f : ByteArray → Int) : List Pr → Int
  | [] => 0
  | a :: r => max (f a.1) 0 + upS f r
def dnS (f : ByteArray → Int) : List Pr → Int
  | [] => 0
  | a :: r => max (-(f a.1)) 0 + dnS f r
theorem upS_snoc (f : ByteArray → Int) : ∀ (l : List Pr) (x : Pr), upS f (l ++ [x]) = upS f l + max (f x.1) 0
  | [], x => by simp [upS]
  | a :: r, x => by rw [List.cons_append, upS, upS, upS_snoc f r x]; omega
theorem dnS_snoc (f : ByteArray → Int) : ∀ (l : List Pr) (x : Pr), dnS f (l ++ [x]) = dnS f l + max (-(f x.1)) 0
  | [], x => by simp [dnS]
  | a :: r, x => by rw [List.cons_append, dnS, dnS, dnS_snoc f r x]; omega
theorem ud_sum (f : ByteArray → Int) : ∀ l : List Pr, upS f l - dnS f l = sumF f l ∧ 0 ≤ upS f l ∧ 0 ≤ dnS f l
  | [] => by simp [upS, dnS, sumF]
  | a :: r => by
    have := ud_sum f r
    rw [upS, dnS, sumF]; omega
theorem ud_bd {f : ByteArray → Int} (h : ∀ c, -720000000000000 ≤ f c ∧ f c ≤ 720000000000000) : ∀ l : List Pr, upS f l ≤ 720000000000000 * (l.length : Int) ∧ dnS f l ≤ 720000000000000 * (l.length : Int)
  | [] => by simp [upS, dnS]
  | a :: r => by
    have := ud_bd h r
    have := h a.1
    rw [upS, dnS, List.length_cons]
    constructor <;> omega
/-- .. of a good book's balances. -/
theorem Good.ud {b : Bk} (g : Good b) (d : Int) : upS (fun k => balS k d b.ens) b.acs = dnS (fun k => balS k d b.ens) b.acs := by
  have h := (ud_sum (fun k => balS k d b.ens) b.acs).1
  rw [book_zero g d] at h; omega
end Go.Proofs.Ytdabangdjgkphaa
