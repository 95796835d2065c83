/-
  A loan that is posted row by row: its lines, and what the books have of it. No condition but those that each theorem names.
-/
import Derived.Test.YtjfflnkocajkeaaKWalkB
namespace Go.Proofs.Ytjfflnkocajkeaa
open Go.RowKit
set_option linter.unusedVariables false

/-- The least payment pays off. -/
theorem loan_ok {L r p : Int} {n : Nat} (L1 : 1 ≤ L) (L2 : L ≤ 1000000000) (r0 : 0 ≤ r) (r1 : r ≤ 1000000) (n1 : 1 ≤ n) (n40 : n ≤ 40) (h : Lst r L n p) (p2 : p ≤ 2000000000000) :
    erL L r p = 0 ∧ cnt r p 40 L ≤ n ∧ bal r p L (cnt r p 40 L) = 0 := by
  have p1 := h.one
  have hb := bal_stay (r := r) (p := p) (L := L) (by omega) n h.pays 40 n40
  refine ⟨erL_of ((okL_iff L r).2 ⟨by omega, by omega, r0, r1⟩) p1 p2 ?_ hb, (cnt_iff (by omega) 40 n hb).2 h.pays, cnt_end 40 L hb⟩
  by_cases c : itR r L < p
  · exact c
  · have := bal_grows (by omega) r0 (show p ≤ itR r L by omega) n
    rw [h.pays] at this
    omega
/-- A row before the last balance is gone. -/
theorem loan_row {L r p : Int} {k : Nat} (L1 : 1 ≤ L) (r0 : 0 ≤ r) (r1 : r ≤ 1000000) (he : erL L r p = 0) (hk : k < cnt r p 40 L) :
    1 ≤ bal r p L k ∧ bal r p L k ≤ L ∧ 0 ≤ itR r (bal r p L k) ∧ itR r (bal r p L k) ≤ bal r p L k ∧ 0 ≤ bal r p L (k + 1) ∧ bal r p L (k + 1) < bal r p L k := by
  obtain ⟨_, p1, _, hi, _⟩ := erL_yes he
  have a := bal_nonneg r p (L := L) (by omega) k
  have b := bal_falls (L := L) (by omega) r0 hi k
  have c := (cnt_spec (r := r) (pay := p) 40 L).1 k hk
  have d := bal_nonneg r p (L := L) (by omega) (k + 1)
  refine ⟨by omega, b.1, itR_nonneg a r0, itR_le a r1, d, ?_⟩
  show nx r p (bal r p L k) < _
  unfold nx; omega
/-- A row's lines. -/
def loanL (off i : Int) : List Pr := if 0 < i then [(c20, off), (c10, -off - i), (c50, i)] else [(c20, off), (c10, -off)]
theorem loanL_ok {off i : Int} (o1 : 1 ≤ off) (o2 : off ≤ 1000000000) (i0 : 0 ≤ i) (i1 : i ≤ 1000000000) : OkLs (loanL off i) := by
  unfold loanL
  by_cases h : 0 < i
  · have q10 : codeB c10 = true := by decide +kernel
    have q20 : codeB c20 = true := by decide +kernel
    have q50 : codeB c50 = true := by decide +kernel
    have h10 : hasB c10 topL = true := by decide +kernel
    have h20 : hasB c20 topL = true := by decide +kernel
    have h50 : hasB c50 topL = true := by decide +kernel
    rw [if_pos h]
    refine ⟨by simp, by simp, fun x hx => ?_, by simp, by simp [sumL]; omega, fun y hy => ?_⟩
    · simp at hx
      rcases hx with rfl | rfl | rfl
      · exact ⟨q20, by simp only []; omega, by simp only []; omega, by simp only []; omega⟩
      · exact ⟨q10, by simp only []; omega, by simp only []; omega, by simp only []; omega⟩
      · exact ⟨q50, by simp only []; omega, by simp only []; omega, by simp only []; omega⟩
    · simp at hy
      rcases hy with rfl | rfl | rfl
      · exact h20
      · exact h10
      · exact h50
  · rw [if_neg h]
    exact mvL_ok (tc := c20) (fr := c10) (by decide +kernel) (by decide +kernel) (by decide) (by decide +kernel) (by decide +kernel) (by omega) (by omega) (by omega)
theorem isB_self (c : ByteArray) (a : Int) : isB c (c, a) = true := isB_iff.2 rfl
theorem isB_not {c d : ByteArray} (h : d ≠ c) (a : Int) : isB c (d, a) = false := by
  cases e : isB c (d, a)
  · rfl
  · exact absurd (isB_iff.1 e) h
theorem kv10 : kiV topL c10 = 0 := by decide +kernel
theorem kv20 : kiV topL c20 = 1 := by decide +kernel
theorem kv40 : kiV topL c40 = 3 := by decide +kernel
theorem kv50 : kiV topL c50 = 4 := by decide +kernel
theorem kinS_insT {acs : List Pr} {k f t : Int} {x : Et} {l : List Et} : kinS acs k f t (insE x l) = (if inD f t x = true then kinL acs k x.lns else 0) + kinS acs k f t l := by
  rw [kinS_perm (insE_perm x l)]
  unfold kinS
  rw [List.filter_cons]
  cases inD f t x <;> simp [kinE]
theorem loanL_sums {off i : Int} (i0 : 0 ≤ i) : codeS c20 (loanL off i) = off ∧ kinL topL 0 (loanL off i) = -off - i ∧ kinL topL 1 (loanL off i) = off ∧ kinL topL 3 (loanL off i) = 0 ∧ kinL topL 4 (loanL off i) = i := by
  have b1 : ∀ a, isB c20 (c10, a) = false := isB_not (by decide)
  have b2 : ∀ a, isB c20 (c50, a) = false := isB_not (by decide)
  have b3 : ∀ a, isB c20 (c20, a) = true := isB_self _
  unfold loanL
  by_cases h : 0 < i
  · rw [if_pos h]
    simp [codeS, kinL, b1, b2, b3, kv10, kv20, kv50]
  · rw [if_neg h]
    have : i = 0 := by omega
    subst this
    simp [codeS, kinL, b1, b3, kv10, kv20]
theorem owe_sums (a : Int) : codeS c20 (mvL c10 c20 a) = -a ∧ kinL topL 0 (mvL c10 c20 a) = a ∧ kinL topL 1 (mvL c10 c20 a) = -a ∧ kinL topL 3 (mvL c10 c20 a) = 0 ∧ kinL topL 4 (mvL c10 c20 a) = 0 := by
  have b1 : ∀ a, isB c20 (c10, a) = false := isB_not (by decide)
  have b3 : ∀ a, isB c20 (c20, a) = true := isB_self _
  unfold mvL
  simp [codeS, kinL, b1, b3, kv10, kv20]
/-- What the books have of it so far. -/
structure LoanSt (b : Bk) (x I : Int) (k : Nat) : Prop where
  owed : ∀ d : Int, (k : Int) ≤ d → balS c20 d b.ens = -x
  p0 : kinS topL 0 0 50 b.ens = x - I
  p1 : kinS topL 1 0 50 b.ens = -x
  p3 : kinS topL 3 0 50 b.ens = 0
  p4 : kinS topL 4 0 50 b.ens = I
  i0 : 0 ≤ I
  i1 : I ≤ 1000000000 * (k : Int)
theorem LoanSt.first {L : Int} (L1 : 1 ≤ L) (L2 : L ≤ 1000000000) :
    poE topB ⟨kyS 99, 0, mvL c10 c20 L⟩ = 0 ∧ Tp (poV topB ⟨kyS 99, 0, mvL c10 c20 L⟩) (fun j => j < 0 ∨ j = 99) 1 ∧ LoanSt (poV topB ⟨kyS 99, 0, mvL c10 c20 L⟩) L 0 0 := by
  obtain ⟨ok, ev, tp⟩ := Tp.new.post (n := 99) (d := 0) (l := mvL c10 c20 L) (by omega) (fun h => h) (by omega) (by omega) (by omega) (mvL_ok (by decide +kernel) (by decide +kernel) (by decide) (by decide +kernel) (by decide +kernel) (by omega) (by omega) (by omega))
  obtain ⟨s1, s2, s3, s4, s5⟩ := owe_sums L
  have hi : inD 0 50 ⟨kyS 99, (0 : Int), mvL c10 c20 L⟩ = true := inD_iff.2 ⟨show (0 : Int) ≤ 0 by omega, show (0 : Int) ≤ 50 by omega⟩
  refine ⟨ok, tp.mono (fun j hj => by rcases hj with h | h; exact h.elim; exact .inr h) (Nat.le_refl _), ?_⟩
  rw [ev]
  refine ⟨fun d hd => ?_, ?_, ?_, ?_, ?_, by omega, by omega⟩
  · simp only [balS_ins]; rw [if_pos (show (0 : Int) ≤ d by omega), s1]; simp [topB, balS, allS]
  · simp only [kinS_insT]; rw [if_pos hi, s2]; simp [topB, kinS, kinE]
  · simp only [kinS_insT]; rw [if_pos hi, s3]; simp [topB, kinS, kinE]
  · simp only [kinS_insT]; rw [if_pos hi, s4]; simp [topB, kinS, kinE]
  · simp only [kinS_insT]; rw [if_pos hi, s5]; simp [topB, kinS, kinE]
theorem LoanSt.step {b : Bk} {x y I i : Int} {k : Nat} (h : LoanSt b x I k) (hT : Tp b (fun j => j < k ∨ j = 99) (k + 1)) (k40 : k < 40) (x1 : x ≤ 1000000000) (y0 : 0 ≤ y) (yx : y < x) (i0 : 0 ≤ i) (ix : i ≤ x) :
    poE b ⟨kyS k, (k : Int) + 1, loanL (x - y) i⟩ = 0 ∧ Tp (poV b ⟨kyS k, (k : Int) + 1, loanL (x - y) i⟩) (fun j => j < k + 1 ∨ j = 99) (k + 1 + 1) ∧ LoanSt (poV b ⟨kyS k, (k : Int) + 1, loanL (x - y) i⟩) y (I + i) (k + 1) := by
  obtain ⟨ok, ev, tp⟩ := hT.post (n := k) (d := (k : Int) + 1) (l := loanL (x - y) i) (by omega) (by omega) (by omega) (by omega) (by omega) (loanL_ok (by omega) (by omega) i0 (by omega))
  obtain ⟨s1, s2, s3, s4, s5⟩ := loanL_sums (off := x - y) i0
  have hi : inD 0 50 ⟨kyS k, (k : Int) + 1, loanL (x - y) i⟩ = true := inD_iff.2 ⟨show (0 : Int) ≤ (k : Int) + 1 by omega, show (k : Int) + 1 ≤ 50 by omega⟩
  refine ⟨ok, tp.mono (fun j hj => by omega) (Nat.le_refl _), ?_⟩
  rw [ev]
  refine ⟨fun d hd => ?_, ?_, ?_, ?_, ?_, by have := h.i0; omega, by have := h.i1; omega⟩
  · simp only [balS_ins]; rw [if_pos (show (k : Int) + 1 ≤ d by omega), s1, h.owed d (by omega)]; omega
  · simp only [kinS_insT]; rw [if_pos hi, s2, h.p0]; omega
  · simp only [kinS_insT]; rw [if_pos hi, s3, h.p1]; omega
  · simp only [kinS_insT]; rw [if_pos hi, s4, h.p3]; rfl
  · simp only [kinS_insT]; rw [if_pos hi, s5, h.p4]; omega
/-- A row's box. -/
theorem row_box (w : World) (x y z : Int) (t : TypeId) : (w.alloc (.cells #[.int .i64 x, .int .i64 y, .int .i64 z] t)).cell? ⟨w.heap.size, 0, none⟩ = some (.int .i64 x) ∧ (w.alloc (.cells #[.int .i64 x, .int .i64 y, .int .i64 z] t)).cell? ⟨w.heap.size, 1, none⟩ = some (.int .i64 y) ∧ (w.alloc (.cells #[.int .i64 x, .int .i64 y, .int .i64 z] t)).cell? ⟨w.heap.size, 2, none⟩ = some (.int .i64 z) := by
  refine ⟨?_, ?_, ?_⟩ <;> simp
/-- .. later. -/
def RwBx (w : World) (p : Nat) (x y z : Int) : Prop := p < w.heap.size ∧ w.cell? ⟨p, 0, none⟩ = some (.int .i64 x) ∧ w.cell? ⟨p, 1, none⟩ = some (.int .i64 y) ∧ w.cell? ⟨p, 2, none⟩ = some (.int .i64 z)
theorem RwBx.new (w : World) (x y z : Int) (t : TypeId) (p : Nat) (hp : w.heap.size = p) : RwBx (w.alloc (.cells #[.int .i64 x, .int .i64 y, .int .i64 z] t)) p x y z := by
  subst hp
  refine ⟨by simp, ?_, ?_, ?_⟩ <;> simp
theorem RwBx.later {w w' : World} {p : Nat} {x y z : Int} (h : RwBx w p x y z) (k : Kept w w') : RwBx w' p x y z := by
  obtain ⟨a, b, c, d⟩ := h
  exact ⟨Nat.lt_of_lt_of_le a k.le, (k.rd.1 _ _ a).trans b, (k.rd.1 _ _ a).trans c, (k.rd.1 _ _ a).trans d⟩
theorem RwBx.other {w : World} {p r i : Nat} {x y z : Int} {u : Value} (h : RwBx w p x y z) (hr : r ≠ p) : RwBx (w.setCell ⟨r, i, none⟩ u) p x y z := by
  obtain ⟨a, b, c, d⟩ := h
  have hr' : p ≠ r := fun e => hr e.symm
  exact ⟨by simpa using a, by go_simp, by go_simp, by go_simp⟩
end Go.Proofs.Ytjfflnkocajkeaa
