/-
  The walk of talkeep.BookZero: it returns true at every input. No condition but those that each theorem names.
-/
import Derived.Test.YtdgiljndoeldcaaHWalkH
namespace Go.Proofs.Ytdgiljndoeldcaa
open Go.RowKit
set_option linter.unusedVariables false

/-- A sum over accounts. -/
def sumF (f : ByteArray → Int) : List Pr → Int
  | [] => 0
  | a :: r => f a.1 + sumF f r
theorem sumF_snoc (f : ByteArray → Int) : ∀ (l : List Pr) (x : Pr), sumF f (l ++ [x]) = sumF f l + f x.1
  | [], x => by simp [sumF]
  | a :: r, x => by rw [List.cons_append, sumF, sumF, sumF_snoc f r x]; omega
theorem sumF_add (f g : ByteArray → Int) : ∀ l : List Pr, sumF (fun c => f c + g c) l = sumF f l + sumF g l
  | [] => rfl
  | a :: r => by rw [sumF, sumF, sumF, sumF_add f g r]; omega
theorem sumF_none {f : ByteArray → Int} : ∀ {l : List Pr}, (∀ a ∈ l, f a.1 = 0) → sumF f l = 0
  | [], _ => rfl
  | a :: r, h => by rw [sumF, h a (by simp), sumF_none fun b hb => h b (by simp [hb])]; rfl
theorem sumF_one {c : ByteArray} {v : Int} : ∀ {l : List Pr}, (l.map Prod.fst).Nodup → (∃ a ∈ l, a.1 = c) → sumF (fun k => if isB k (c, v) = true then v else 0) l = v
  | [], _, ⟨_, h, _⟩ => by simp at h
  | a :: r, hn, h => by
    rw [List.map_cons, List.nodup_cons] at hn
    rw [sumF]
    by_cases e : a.1 = c
    · have z : sumF (fun k => if isB k (c, v) = true then v else 0) r = 0 := sumF_none fun b hb => by
        rw [if_neg]
        intro hi
        have : c = b.1 := isB_iff.1 hi
        exact hn.1 (List.mem_map.2 ⟨b, hb, by rw [← this, e]⟩)
      rw [z, if_pos (isB_iff.2 e.symm)]; omega
    · have hr : ∃ a ∈ r, a.1 = c := by
        obtain ⟨b, hb, hc⟩ := h
        rcases List.mem_cons.1 hb with rfl | hb
        · exact absurd hc e
        · exact ⟨b, hb, hc⟩
      rw [sumF_one hn.2 hr, if_neg (fun hi => e (show a.1 = c from (isB_iff.1 hi).symm))]; omega
theorem sumF_lines {acs : List Pr} (hn : (acs.map Prod.fst).Nodup) : ∀ {l : List Pr}, (∀ y ∈ l, hasB y.1 acs = true) → sumF (fun k => codeS k l) acs = sumL l
  | [], _ => sumF_none fun a _ => rfl
  | x :: r, h => by
    have e : (fun k => codeS k (x :: r)) = fun k => (if isB k (x.1, x.2) = true then x.2 else 0) + codeS k r := rfl
    rw [e, sumF_add (fun k => if isB k (x.1, x.2) = true then x.2 else 0) (fun k => codeS k r), sumF_one hn (hasB_iff.1 (h x (by simp))), sumF_lines hn fun y hy => h y (by simp [hy]), sumL]
theorem sumF_ens {acs : List Pr} (hn : (acs.map Prod.fst).Nodup) : ∀ {l : List Et}, (∀ e ∈ l, OkE acs e) → sumF (fun k => allS k l) acs = 0
  | [], _ => sumF_none fun a _ => rfl
  | x :: r, h => by
    have e : (fun k => allS k (x :: r)) = fun k => codeS k x.lns + allS k r := rfl
    obtain ⟨ok, hs⟩ := h x (by simp)
    rw [e, sumF_add (fun k => codeS k x.lns) (fun k => allS k r), sumF_lines hn hs, sumF_ens hn fun y hy => h y (by simp [hy]), (enE_ok ok).2.2.2.2]; rfl
theorem inc_nodup : ∀ {l : List ByteArray}, Inc l → l.Nodup
  | [], _ => List.nodup_nil
  | a :: r, h => List.nodup_cons.2 ⟨(fun hm => absurd (h.1 a hm) (by rw [lt_irr]; simp)), inc_nodup h.2⟩
theorem book_zero {b : Bk} (g : Good b) (d : Int) : sumF (fun k => balS k d b.ens) b.acs = 0 :=
  sumF_ens (inc_nodup (acE_inc g.acs).1) (l := b.ens.filter fun e => decide (e.day ≤ d)) fun e he => g.each e ((List.mem_filter.1 he).1)
theorem Good.ba {b : Bk} (g : Good b) {c : ByteArray} {d : Int} (hc : hasB c b.acs = true) (hd : dyB d = true) : baE b c d = 0 := by unfold baE; rw [if_pos (bkE_iff.2 g), if_pos hc, if_pos hd]
theorem bal_bd {b : Bk} (g : Good b) (c : ByteArray) (d : Int) : -720000000000000 ≤ balS c d b.ens ∧ balS c d b.ens ≤ 720000000000000 := by
  have h := allS_bd (c := c) (l := b.ens.filter fun e => decide (e.day ≤ d)) fun x hx => (g.each x ((List.mem_filter.1 hx).1)).bd
  have hl : (b.ens.filter fun e => decide (e.day ≤ d)).length ≤ 60 := Nat.le_trans (List.length_filter_le _ _) g.many
  unfold balS
  omega
theorem sumF_bd {f : ByteArray → Int} (h : ∀ c, -720000000000000 ≤ f c ∧ f c ≤ 720000000000000) : ∀ l : List Pr, -720000000000000 * (l.length : Int) ≤ sumF f l ∧ sumF f l ≤ 720000000000000 * (l.length : Int)
  | [] => by simp [sumF]
  | a :: r => by
    have := sumF_bd h r
    have := h a.1
    rw [sumF, List.length_cons]
    constructor <;> omega
end Go.Proofs.Ytdgiljndoeldcaa
