/-
  Plain mathematics of the stable sort by blocks: blocks in order, each of what belongs there; two and two merged; all in order. No condition.
-/
import Derived.Test.YtpkdknddncnceaaTMathC
namespace Go.Proofs.Ytpkdknddncnceaa

/-- The places themselves. -/
def idn : Nat → Int := fun q => (q : Int)
/-- A block that is done: in order, and of its own numbers. -/
structure Blc (k : Int → Int) (d : Nat → Int) (a b : Nat) : Prop where
  srt : Sorted k d a b
  own : ∀ q, a ≤ q → q < b → (a : Int) ≤ d q ∧ d q < b
theorem Blc.other {k : Int → Int} {d e : Nat → Int} {a b x y : Nat} (h : Blc k d x y) (hp : SegPerm a b d e) (dis : y ≤ a ∨ b ≤ x) : Blc k e x y :=
  ⟨fun i j i0 ij j1 => by rw [hp.out i (by omega), hp.out j (by omega)]; exact h.srt i j i0 ij j1, fun q q0 q1 => by rw [hp.out q (by omega)]; exact h.own q q0 q1⟩
theorem Blc.made {k : Int → Int} {d e : Nat → Int} {a b : Nat} (hp : SegPerm a b d e) (hs : Sorted k e a b) (ho : ∀ q, a ≤ q → q < b → (a : Int) ≤ d q ∧ d q < b) : Blc k e a b :=
  ⟨hs, fun q q0 q1 => by obtain ⟨r, r0, r1, hr⟩ := hp.src q q0 q1; rw [hr]; exact ho r r0 r1⟩
/-- Two blocks side by side may be merged. -/
theorem Blc.cross {k : Int → Int} {d : Nat → Int} {a m b : Nat} (h : Blc k d a m) (g : Blc k d m b) : Cross k d a m b :=
  fun i j i0 i1 j0 j1 _ => by have := h.own i i0 i1; have := g.own j j0 j1; omega
theorem Blc.join {k : Int → Int} {d e : Nat → Int} {a m b : Nat} (h : Blc k d a m) (g : Blc k d m b) (am : a ≤ m) (mb : m ≤ b) (hp : SegPerm a b d e) (hs : Sorted k e a b) : Blc k e a b :=
  Blc.made hp hs (fun q q0 q1 => by
    by_cases c : q < m
    · have := h.own q q0 c; omega
    · have := g.own q (by omega) q1; omega)
/-- The first blocks of twenty are done, the rest is as it came. -/
structure Fst (k : Int → Int) (n t : Nat) (d : Nat → Int) : Prop where
  pm : SegPerm 0 n idn d
  idt : ∀ q, 20 * t ≤ q → q < n → d q = q
  blk : ∀ c, c < t → Blc k d (20 * c) (20 * c + 20)
theorem Fst.start (k : Int → Int) (n : Nat) : Fst k n 0 idn := ⟨SegPerm.refl _ _ _, fun q _ _ => rfl, fun c h => by omega⟩
theorem inR_idn (n : Nat) : InR n idn := fun q hq => by unfold idn; omega
theorem Fst.inR {k : Int → Int} {n t : Nat} {d : Nat → Int} (h : Fst k n t d) : InR n d := h.pm.inR (Nat.le_refl _) (inR_idn n)
theorem Fst.outer {k : Int → Int} {n t : Nat} {d : Nat → Int} (h : Fst k n t d) (b : Nat) (hb : b ≤ n) : Outer k d (20 * t) b (20 * t + 1) :=
  ⟨fun i j i0 ij j1 => by omega, fun p q p0 pq qb _ _ => by rw [h.idt p p0 (by omega), h.idt q (by omega) (by omega)]; omega⟩
theorem Fst.step {k : Int → Int} {n t : Nat} {d e : Nat → Int} (h : Fst k n t d) (hb : 20 * t + 20 ≤ n) (hp : SegPerm (20 * t) (20 * t + 20) d e) (hs : Sorted k e (20 * t) (20 * t + 20)) : Fst k n (t + 1) e := by
  refine ⟨h.pm.trans (hp.mono (Nat.zero_le _) hb), fun q q0 q1 => ?_, fun c hc => ?_⟩
  · rw [hp.out q (by omega)]; exact h.idt q (by omega) q1
  · by_cases e1 : c = t
    · subst e1
      exact Blc.made hp hs (fun q q0 q1 => by rw [h.idt q q0 (by omega)]; omega)
    · exact (h.blk c (by omega)).other hp (by omega)
/-- All blocks of a size are done. -/
structure Bks (k : Int → Int) (n s : Nat) (d : Nat → Int) : Prop where
  pm : SegPerm 0 n idn d
  blk : ∀ c, c * s < n → Blc k d (c * s) (min (c * s + s) n)
theorem Fst.last {k : Int → Int} {n t : Nat} {d e : Nat → Int} (h : Fst k n t d) (hb : n < 20 * t + 20) (ht : 20 * t ≤ n) (hp : SegPerm (20 * t) n d e) (hs : Sorted k e (20 * t) n) : Bks k n 20 e := by
  refine ⟨h.pm.trans (hp.mono (Nat.zero_le _) (Nat.le_refl _)), fun c hc => ?_⟩
  by_cases e1 : c < t
  · have := (h.blk c e1).other hp (by omega)
    rw [show c * 20 = 20 * c by omega, show min (20 * c + 20) n = 20 * c + 20 by omega]
    exact this
  · obtain rfl : c = t := by omega
    rw [show c * 20 = 20 * c by omega, show min (20 * c + 20) n = n by omega]
    exact Blc.made hp hs (fun q q0 q1 => by rw [h.idt q q0 (by omega)]; omega)
theorem Bks.inR {k : Int → Int} {n s : Nat} {d : Nat → Int} (h : Bks k n s d) : InR n d := h.pm.inR (Nat.le_refl _) (inR_idn n)
/-- So many pairs of blocks are merged. -/
structure Mxd (k : Int → Int) (n s t : Nat) (d : Nat → Int) : Prop where
  pm : SegPerm 0 n idn d
  lo : ∀ c, c < t → c * (2 * s) < n → Blc k d (c * (2 * s)) (min (c * (2 * s) + 2 * s) n)
  hi : ∀ c, 2 * t ≤ c → c * s < n → Blc k d (c * s) (min (c * s + s) n)
theorem Bks.mxd {k : Int → Int} {n s : Nat} {d : Nat → Int} (h : Bks k n s d) : Mxd k n s 0 d := ⟨h.pm, fun c hc => by omega, fun c _ hc => h.blk c hc⟩
theorem Mxd.inR {k : Int → Int} {n s t : Nat} {d : Nat → Int} (h : Mxd k n s t d) : InR n d := h.pm.inR (Nat.le_refl _) (inR_idn n)
theorem two_mul_s (t s : Nat) : 2 * t * s = t * (2 * s) ∧ (2 * t + 1) * s = t * (2 * s) + s ∧ (t + 1) * (2 * s) = t * (2 * s) + 2 * s := by
  refine ⟨?_, ?_, ?_⟩
  · rw [Nat.mul_comm 2 t, Nat.mul_assoc]
  · rw [Nat.add_mul, Nat.mul_comm 2 t, Nat.mul_assoc, Nat.one_mul]
  · rw [Nat.add_mul, Nat.one_mul]
/-- The two blocks that are merged next. -/
theorem Mxd.two {k : Int → Int} {n s t : Nat} {d : Nat → Int} (h : Mxd k n s t d) (_s1 : 1 ≤ s) (b : Nat) (hb : t * (2 * s) + s < b) (hb2 : b = t * (2 * s) + 2 * s ∧ b ≤ n ∨ b = n ∧ n < t * (2 * s) + 2 * s) :
    Blc k d (t * (2 * s)) (t * (2 * s) + s) ∧ Blc k d (t * (2 * s) + s) b := by
  obtain ⟨e1, e2, _⟩ := two_mul_s t s
  have a := h.hi (2 * t) (Nat.le_refl _) (by omega)
  have c := h.hi (2 * t + 1) (by omega) (by omega)
  rw [e1, show min (t * (2 * s) + s) n = t * (2 * s) + s by omega] at a
  rw [e2, show min (t * (2 * s) + s + s) n = b by omega] at c
  exact ⟨a, c⟩
theorem mul_lt_far {c t s : Nat} (h : t + 1 ≤ c) : t * (2 * s) + 2 * s ≤ c * (2 * s) := by
  have := Nat.mul_le_mul_right (2 * s) h
  rw [Nat.add_mul, Nat.one_mul] at this
  exact this
theorem mul_lt_far1 {c t s : Nat} (h : 2 * t + 2 ≤ c) : t * (2 * s) + 2 * s ≤ c * s := by
  have := Nat.mul_le_mul_right s h
  rw [Nat.add_mul, Nat.mul_comm 2 t, Nat.mul_assoc] at this
  exact this
theorem Mxd.step {k : Int → Int} {n s t : Nat} {d e : Nat → Int} (h : Mxd k n s t d) (s1 : 1 ≤ s) (hb : t * (2 * s) + 2 * s ≤ n) (hp : SegPerm (t * (2 * s)) (t * (2 * s) + 2 * s) d e) (hs : Sorted k e (t * (2 * s)) (t * (2 * s) + 2 * s)) : Mxd k n s (t + 1) e := by
  obtain ⟨g1, g2⟩ := h.two s1 (t * (2 * s) + 2 * s) (by omega) (.inl ⟨rfl, hb⟩)
  refine ⟨h.pm.trans (hp.mono (Nat.zero_le _) hb), fun c hc hn => ?_, fun c hc hn => ?_⟩
  · by_cases e1 : c = t
    · subst e1
      rw [show min (c * (2 * s) + 2 * s) n = c * (2 * s) + 2 * s by omega]
      exact g1.join g2 (by omega) (by omega) hp hs
    · have f := mul_lt_far (s := s) (show c + 1 ≤ t by omega)
      exact (h.lo c (by omega) hn).other hp (by omega)
  · have f := mul_lt_far1 (s := s) (show 2 * t + 2 ≤ c by omega)
    exact (h.hi c (by omega) hn).other hp (by omega)
/-- The last pair, that is not whole. -/
theorem Mxd.last {k : Int → Int} {n s t : Nat} {d e : Nat → Int} (h : Mxd k n s t d) (s1 : 1 ≤ s) (hb : n < t * (2 * s) + 2 * s) (hm : t * (2 * s) + s < n) (hp : SegPerm (t * (2 * s)) n d e) (hs : Sorted k e (t * (2 * s)) n) : Bks k n (2 * s) e := by
  obtain ⟨g1, g2⟩ := h.two s1 n hm (.inr ⟨rfl, hb⟩)
  refine ⟨h.pm.trans (hp.mono (Nat.zero_le _) (Nat.le_refl _)), fun c hn => ?_⟩
  by_cases e1 : c < t
  · have f := mul_lt_far (s := s) (show c + 1 ≤ t by omega)
    exact (h.lo c e1 hn).other hp (by omega)
  · by_cases e2 : c = t
    · subst e2
      rw [show min (c * (2 * s) + 2 * s) n = n by omega]
      exact g1.join g2 (by omega) (by omega) hp hs
    · have f := mul_lt_far (s := s) (show t + 1 ≤ c by omega)
      omega
theorem Mxd.none {k : Int → Int} {n s t : Nat} {d : Nat → Int} (h : Mxd k n s t d) (hb : n < t * (2 * s) + 2 * s) (hm : n ≤ t * (2 * s) + s) : Bks k n (2 * s) d := by
  refine ⟨h.pm, fun c hn => ?_⟩
  by_cases e1 : c < t
  · exact h.lo c e1 hn
  · by_cases e2 : c = t
    · subst e2
      obtain ⟨f1, _, _⟩ := two_mul_s c s
      have a := h.hi (2 * c) (Nat.le_refl _) (by omega)
      rw [f1, show min (c * (2 * s) + s) n = n by omega] at a
      rw [show min (c * (2 * s) + 2 * s) n = n by omega]
      exact a
    · have f := mul_lt_far (s := s) (show t + 1 ≤ c by omega)
      omega
/-- The places in order. -/
def Ordered (k : Int → Int) (n : Nat) (d : Nat → Int) : Prop := SegPerm 0 n idn d ∧ Sorted k d 0 n
theorem Bks.all {k : Int → Int} {n s : Nat} {d : Nat → Int} (h : Bks k n s d) (hs : n ≤ s) : Ordered k n d := by
  refine ⟨h.pm, fun i j i0 ij j1 => ?_⟩
  have a := h.blk 0 (by omega)
  rw [show min (0 * s + s) n = n by omega, show 0 * s = 0 by omega] at a
  exact a.srt i j i0 ij j1
/-- Every place comes just once. -/
theorem Ordered.inR {k : Int → Int} {n : Nat} {d : Nat → Int} (h : Ordered k n d) : InR n d := h.1.inR (Nat.le_refl _) (inR_idn n)

end Go.Proofs.Ytpkdknddncnceaa
