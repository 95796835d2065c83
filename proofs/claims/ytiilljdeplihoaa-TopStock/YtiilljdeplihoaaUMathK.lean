/-
  Purchases and sales in the books: what is posted, and what the inventory account holds of it. No condition but those that each theorem names.
-/
import Derived.Test.YtiilljdeplihoaaUWalkP
namespace Go.Proofs.Ytiilljdeplihoaa
open Go.RowKit
set_option linter.unusedVariables false

set_option maxHeartbeats 1000000 in
theorem moved_big (n : Nat) (d a : Int) (tc fr : ByteArray) (w : World) (h : n < 200) (a1 : -1000000000000000 ≤ a) (a2 : a ≤ 1000000000000000) :
    Calls Try.prog 22 #[.int .i64 n, .int .i64 d, .int .i64 a, .string tc, .string fr] w (MvPost w (kyS n) d (mvL tc fr a)) := by
  have wr1 : IntKind.i64.wrap (-a) = -a := IntWalk.i64_in _ (by omega)
  go_enter Try.func22, Try.ntmps22
  go_wp2_with fail
  refine (tkey_any n _ h).mono ?_
  rintro e w1 ⟨rfl, rfl⟩
  have hO := Lib.hid (mv_own (w.alloc (.cells #[.string (kyS n), .int .i64 d, .slice (some ⟨w.heap.size + 1, 0, none⟩) 2 2] 56)) (w.heap.size + 1) 59 (tc, a) (fr, -a) (by simp))
  go_wp2
  exact bodyPost_ret (v := enV (kyS n) d (some ⟨w.heap.size + 1, 0, none⟩) 2 2) (by simp [results, Try.results22, go_sem]) rfl ⟨w.heap.size + 1, by omega, rfl, hO.out, ((Kept.refl w).alloc _).alloc _⟩
theorem isB_selfK (c : ByteArray) (a : Int) : isB c (c, a) = true := isB_iff.2 rfl
theorem isB_notK {c d : ByteArray} (h : d ≠ c) (a : Int) : isB c (d, a) = false := by
  cases e : isB c (d, a)
  · rfl
  · exact absurd (isB_iff.1 e) h
theorem st_recv (a : Int) : codeS c15 (mvL c15 c10 a) = a ∧ codeS c50 (mvL c15 c10 a) = 0 := by
  have b1 : ∀ a, isB c15 (c15, a) = true := isB_selfK _
  have b2 : ∀ a, isB c15 (c10, a) = false := isB_notK (by decide)
  have b3 : ∀ a, isB c50 (c15, a) = false := isB_notK (by decide)
  have b4 : ∀ a, isB c50 (c10, a) = false := isB_notK (by decide)
  unfold mvL
  simp [codeS, b1, b2, b3, b4]
theorem st_send (a : Int) : codeS c15 (mvL c50 c15 a) = -a ∧ codeS c50 (mvL c50 c15 a) = a := by
  have b1 : ∀ a, isB c15 (c15, a) = true := isB_selfK _
  have b2 : ∀ a, isB c15 (c50, a) = false := isB_notK (by decide)
  have b3 : ∀ a, isB c50 (c15, a) = false := isB_notK (by decide)
  have b4 : ∀ a, isB c50 (c50, a) = true := isB_selfK _
  unfold mvL
  simp [codeS, b1, b2, b3, b4]
/-- What the books hold: inventory, and what is gone. -/
structure StSt (b : Bk) (i g : Int) : Prop where
  inv : balS c15 99 b.ens = i
  gone : balS c50 99 b.ens = g
theorem StSt.new : StSt topB 0 0 := ⟨by decide +kernel, by decide +kernel⟩
theorem StSt.recv {b : Bk} {i g c : Int} {j : Nat} (h : StSt b i g) (hT : Tp b (fun n => n < j) j) (hj : j < 40) (c0 : c ≠ 0) (c1 : 0 ≤ c) (c2 : c ≤ 1000000000000) :
    poE b ⟨kyS j, j, mvL c15 c10 c⟩ = 0 ∧ Tp (poV b ⟨kyS j, j, mvL c15 c10 c⟩) (fun n => n < j + 1) (j + 1) ∧ StSt (poV b ⟨kyS j, j, mvL c15 c10 c⟩) (i + c) g := by
  obtain ⟨ok, ev, tp⟩ := hT.post (n := j) (d := (j : Int)) (l := mvL c15 c10 c) (by omega) (by omega) (by omega) (by omega) (by omega) (mvL_ok (by decide +kernel) (by decide +kernel) (by decide) (by decide +kernel) (by decide +kernel) c0 (by omega) (by omega))
  obtain ⟨s1, s2⟩ := st_recv c
  refine ⟨ok, tp.mono (fun n hn => by omega) (Nat.le_refl _), ?_⟩
  rw [ev]
  refine ⟨?_, ?_⟩
  · simp only [balS_ins]; rw [if_pos (show (j : Int) ≤ 99 by omega), s1, h.inv]
  · simp only [balS_ins]; rw [if_pos (show (j : Int) ≤ 99 by omega), s2, h.gone]; omega
theorem StSt.send {b : Bk} {i g c : Int} {j : Nat} (h : StSt b i g) (hT : Tp b (fun n => n < j) j) (hj : j < 40) (c0 : c ≠ 0) (c1 : 0 ≤ c) (c2 : c ≤ 1000000000000) :
    poE b ⟨kyS j, j, mvL c50 c15 c⟩ = 0 ∧ Tp (poV b ⟨kyS j, j, mvL c50 c15 c⟩) (fun n => n < j + 1) (j + 1) ∧ StSt (poV b ⟨kyS j, j, mvL c50 c15 c⟩) (i - c) (g + c) := by
  obtain ⟨ok, ev, tp⟩ := hT.post (n := j) (d := (j : Int)) (l := mvL c50 c15 c) (by omega) (by omega) (by omega) (by omega) (by omega) (mvL_ok (by decide +kernel) (by decide +kernel) (by decide) (by decide +kernel) (by decide +kernel) c0 (by omega) (by omega))
  obtain ⟨s1, s2⟩ := st_send c
  refine ⟨ok, tp.mono (fun n hn => by omega) (Nat.le_refl _), ?_⟩
  rw [ev]
  refine ⟨?_, ?_⟩
  · simp only [balS_ins]; rw [if_pos (show (j : Int) ≤ 99 by omega), s1, h.inv]; omega
  · simp only [balS_ins]; rw [if_pos (show (j : Int) ≤ 99 by omega), s2, h.gone]
theorem tff_pre (l : List Mv) : ∀ m : List Mv, ∃ t, (ffS (l ++ m)).1 = (ffS l).1 ++ t := by
  have : ∀ (m : List Mv) (s : List Int × List Mv), ∃ t, (m.foldl ffT s).1 = s.1 ++ t := by
    intro m
    induction m with
    | nil => intro s; exact ⟨[], by simp⟩
    | cons x r ih =>
      intro s
      obtain ⟨t, ht⟩ := ih (ffT s x)
      rw [List.foldl_cons, ht]
      unfold ffT
      split
      · exact ⟨t, rfl⟩
      · exact ⟨tkC s.2 (-x.1) :: t, by simp⟩
  intro m
  obtain ⟨t, ht⟩ := this m (ffS l)
  exact ⟨t, by unfold ffS at ht ⊢; rw [List.foldl_append, ht]⟩
/-- What is out is the next cost. -/
theorem outs_at {l : List Mv} {j : Nat} (h : j < l.length) (neg : ¬ 0 < (l[j]).1) : ∃ h2 : (ffS (l.take j)).1.length < (ffS l).1.length, (ffS l).1[(ffS (l.take j)).1.length] = tkC (ffS (l.take j)).2 (-(l[j]).1) := by
  obtain ⟨t, ht⟩ := tff_pre (l.take (j + 1)) (l.drop (j + 1))
  rw [List.take_append_drop, ffS_at h] at ht
  unfold ffT at ht
  rw [if_neg neg] at ht
  simp only at ht
  refine ⟨by rw [ht]; simp, ?_⟩
  simp only [ht]
  rw [List.getElem_append_left (by simp), List.getElem_append_right (Nat.le_refl _)]
  simp
theorem WBx.putK {w : World} {p : Nat} {k : ByteArray} {d : Int} {v : Value} (h : WBx w p k d v) (k' : ByteArray) (d' : Int) (v' : Value) :
    WBx (((w.setCell ⟨p, 0, none⟩ (.string k')).setCell ⟨p, 1, none⟩ (.int .i64 d')).setCell ⟨p, 2, none⟩ v') p k' d' v' := by
  obtain ⟨⟨h0, h1, h2, h3⟩, f0, f1, f2⟩ := h
  exact ⟨⟨by simpa using h0, by go_simp, by go_simp, by go_simp⟩, by go_simp, by go_simp, by go_simp⟩
end Go.Proofs.Ytiilljdeplihoaa
