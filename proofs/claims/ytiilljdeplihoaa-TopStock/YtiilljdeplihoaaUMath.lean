/-
  Keys by numbers, the accounts of the end-to-end tests, and entries posted one by one under keys that are new. No condition but those that each theorem names.
-/
import Derived.Test.YtiilljdeplihoaaLawBookZero
namespace Go.Proofs.Ytiilljdeplihoaa
set_option linter.unusedVariables false

/-- A digit as text. -/
def dgS (k : Nat) : ByteArray := (⟨#[48, 49, 50, 51, 52, 53, 54, 55, 56, 57]⟩ : ByteArray).extract k (k + 1)
/-- A number below 1000 as text. -/
def dcS (n : Nat) : ByteArray := if n < 10 then dgS n else if n < 100 then dgS (n / 10) ++ dgS (n % 10) else dgS (n / 100) ++ dgS (n / 10 % 10) ++ dgS (n % 10)
theorem dcS1 {n : Nat} (h : n < 10) : dcS n = dgS n := by unfold dcS; rw [if_pos h]
theorem dcS2 {n : Nat} (h : 10 ≤ n) (h2 : n < 100) : dcS n = dcS (n / 10) ++ dcS (n % 10) := by
  rw [dcS1 (n := n / 10) (by omega), dcS1 (n := n % 10) (by omega)]; unfold dcS; rw [if_neg (by omega), if_pos h2]
theorem dcS3 {n : Nat} (h : 100 ≤ n) (h2 : n < 1000) : dcS n = dcS (n / 10) ++ dcS (n % 10) := by
  rw [dcS2 (n := n / 10) (by omega) (by omega), dcS1 (n := n % 10) (by omega), dcS1 (n := n / 10 / 10) (by omega), dcS1 (n := n / 10 % 10) (by omega)]
  unfold dcS; rw [if_neg (by omega), if_neg (by omega), Nat.div_div_eq_div_mul]
theorem dcS_size : ∀ n, n < 1000 → (dcS n).size ≤ 3 := by decide +kernel
/-- The key of a number. -/
def kyS (n : Nat) : ByteArray := ⟨#[107]⟩ ++ dcS n
/-- .. and back. -/
def vlS (s : ByteArray) : Nat := (s.data.toList.drop 1).foldl (fun a c => a * 10 + (c.toNat - 48)) 0
theorem kyS_ok : ∀ n, n < 200 → keyB (kyS n) = true := by decide +kernel
theorem kyS_back : ∀ n, n < 200 → vlS (kyS n) = n := by decide +kernel
theorem kyS_size : ∀ n, n < 200 → (kyS n).size ≤ 12 := by decide +kernel
theorem kyS_inj {m n : Nat} (hm : m < 200) (hn : n < 200) (h : kyS m = kyS n) : m = n := by rw [← kyS_back m hm, h, kyS_back n hn]
abbrev c10 : ByteArray := ⟨#[49, 48]⟩
abbrev c15 : ByteArray := ⟨#[49, 53]⟩
abbrev c20 : ByteArray := ⟨#[50, 48]⟩
abbrev c30 : ByteArray := ⟨#[51, 48]⟩
abbrev c40 : ByteArray := ⟨#[52, 48]⟩
abbrev c50 : ByteArray := ⟨#[53, 48]⟩
/-- The accounts. -/
def topL : List Pr := [(c10, 0), (c15, 0), (c20, 1), (c30, 2), (c40, 3), (c50, 4)]
def topB : Bk := ⟨topL, [], -1⟩
theorem topL_acs : acE topL = 0 := by decide +kernel
/-- Lines that may be in an entry. -/
def OkLs (l : List Pr) : Prop := 2 ≤ l.length ∧ l.length ≤ 12 ∧ (∀ x ∈ l, okLn x) ∧ (l.map Prod.fst).Nodup ∧ sumL l = 0 ∧ ∀ y ∈ l, hasB y.1 topL = true
theorem okE_ky {n : Nat} {d : Int} {l : List Pr} (hn : n < 200) (d0 : 0 ≤ d) (d1 : d ≤ 292193) (h : OkLs l) : OkE topL ⟨kyS n, d, l⟩ := by
  obtain ⟨h1, h2, h3, h4, h5, h6⟩ := h
  exact ⟨enE_iff.2 ⟨by unfold hdE; rw [if_pos (kyS_ok n hn), if_neg (by simp only []; omega)], h1, h2, h3, h4, h5⟩, h6⟩
/-- From one account to another one. -/
def mvL (tc fr : ByteArray) (a : Int) : List Pr := [(tc, a), (fr, -a)]
theorem mvL_ok {tc fr : ByteArray} {a : Int} (h1 : codeB tc = true) (h2 : codeB fr = true) (h3 : tc ≠ fr) (h4 : hasB tc topL = true) (h5 : hasB fr topL = true) (a0 : a ≠ 0) (a1 : -1000000000000 ≤ a) (a2 : a ≤ 1000000000000) : OkLs (mvL tc fr a) := by
  refine ⟨by simp [mvL], by simp [mvL], fun x hx => ?_, ?_, by simp [mvL, sumL]; omega, fun y hy => ?_⟩
  · simp [mvL] at hx
    rcases hx with rfl | rfl
    · exact ⟨h1, a1, a2, a0⟩
    · exact ⟨h2, by simp only []; omega, by simp only []; omega, by simp only []; omega⟩
  · simpa [mvL] using h3
  · simp [mvL] at hy
    rcases hy with rfl | rfl
    · exact h4
    · exact h5
/-- A book of the tests: its keys are of numbers that were used. -/
structure Tp (b : Bk) (P : Nat → Prop) (m : Nat) : Prop where
  good : Good b
  acs : b.acs = topL
  shut : b.shut = -1
  keys : ∀ e ∈ b.ens, ∃ j, j < 200 ∧ P j ∧ e.key = kyS j
  len : b.ens.length ≤ m
theorem Tp.new : Tp topB (fun _ => False) 0 := ⟨⟨topL_acs, .inl rfl, by decide, (fun x hx => by cases hx), List.nodup_nil, trivial⟩, rfl, rfl, (fun e he => by cases he), Nat.le_refl _⟩
theorem Tp.mono {b : Bk} {P Q : Nat → Prop} {m n : Nat} (h : Tp b P m) (hp : ∀ j, P j → Q j) (hm : m ≤ n) : Tp b Q n :=
  ⟨h.good, h.acs, h.shut, fun e he => by obtain ⟨j, a, c, d⟩ := h.keys e he; exact ⟨j, a, hp j c, d⟩, Nat.le_trans h.len hm⟩
/-- One entry more, by a number that was not used. -/
theorem Tp.post {b : Bk} {P : Nat → Prop} {m n : Nat} {d : Int} {l : List Pr} (h : Tp b P m) (hn : n < 200) (hp : ¬ P n) (hm : m < 60) (d0 : 0 ≤ d) (d1 : d ≤ 292193) (hl : OkLs l) :
    poE b ⟨kyS n, d, l⟩ = 0 ∧ poV b ⟨kyS n, d, l⟩ = ⟨b.acs, insE ⟨kyS n, d, l⟩ b.ens, b.shut⟩ ∧ Tp (poV b ⟨kyS n, d, l⟩) (fun j => P j ∨ j = n) (m + 1) := by
  have hk : ∀ e ∈ b.ens, e.key ≠ kyS n := fun e he hk => by
    obtain ⟨j, j2, pj, ej⟩ := h.keys e he
    rw [ej] at hk
    exact hp (kyS_inj j2 hn hk ▸ pj)
  have hlen := h.len
  have ok : poE b ⟨kyS n, d, l⟩ = 0 := poE_new h.good (by rw [h.acs]; exact okE_ky hn d0 d1 hl) hk (by rw [h.shut]; simp only []; omega) (by omega)
  have ev : poV b ⟨kyS n, d, l⟩ = ⟨b.acs, insE ⟨kyS n, d, l⟩ b.ens, b.shut⟩ := by
    unfold poV
    rw [if_neg]
    intro hlt
    obtain ⟨e, he, hke⟩ := kyI_lt.1 hlt
    exact hk e he hke
  obtain ⟨g, _, ha, hs, hmem⟩ := Good.post ok
  refine ⟨ok, ev, ⟨g, ha.trans h.acs, hs.trans h.shut, fun e he => ?_, ?_⟩⟩
  · rcases (hmem e).1 he with rfl | he
    · exact ⟨n, hn, .inr rfl, rfl⟩
    · obtain ⟨j, a, c, dd⟩ := h.keys e he
      exact ⟨j, a, .inl c, dd⟩
  · rw [ev]; simp only [insE_len]; omega
theorem Tp.ba {b : Bk} {P : Nat → Prop} {m : Nat} {c : ByteArray} {d : Int} (h : Tp b P m) (hc : hasB c topL = true) (d0 : 0 ≤ d) (d1 : d ≤ 292193) : baE b c d = 0 :=
  h.good.ba (by rw [h.acs]; exact hc) ((dyB_iff d).2 ⟨d0, d1⟩)
/-- The lines' texts are short. -/
theorem short_two {x y : Pr} (hx : x.1.size ≤ maxLen) (hy : y.1.size ≤ maxLen) : Shortish [x, y] := fun z hz => by
  simp at hz
  rcases hz with rfl | rfl
  · exact hx
  · exact hy
end Go.Proofs.Ytiilljdeplihoaa
