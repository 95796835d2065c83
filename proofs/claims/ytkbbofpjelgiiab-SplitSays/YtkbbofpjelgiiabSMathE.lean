/-
  The reference's way: one by one, each to the one that has most left. On numbers alone.
-/
import Derived.Test.YtkbbofpjelgiiabSMathC
namespace Go.Proofs.Ytkbbofpjelgiiab

theorem bs_split (W T w : Int) (hT : 0 < T) : W / T * w + W % T * w / T = W * w / T := by
  have e := Int.mul_ediv_add_emod W T
  have : W * w = W % T * w + T * (W / T * w) := by
    conv => lhs; rw [← e]
    rw [Int.add_mul, Int.mul_assoc]; omega
  rw [this, Int.add_mul_ediv_left _ _ (by omega)]; omega

/-- The best of the first i that are not yet given. -/
def Best (k : Nat → Int) (G : Nat → Bool) (i : Nat) (b : Int) : Prop :=
  (b = -1 ∧ ∀ q, q < i → G q = true) ∨ ∃ c : Nat, b = c ∧ c < i ∧ G c = false ∧ ∀ q, q < i → G q = false → q = c ∨ k q < k c ∨ (k c = k q ∧ c < q)
theorem Best.start (k : Nat → Int) (G : Nat → Bool) : Best k G 0 (-1) := .inl ⟨rfl, fun q hq => by omega⟩
theorem Best.got {k : Nat → Int} {G : Nat → Bool} {i : Nat} {b : Int} (h : Best k G i b) (hg : G i = true) : Best k G (i + 1) b := by
  rcases h with ⟨e, h⟩ | ⟨c, e, ci, gc, h⟩
  · refine .inl ⟨e, fun q hq => ?_⟩
    by_cases z : q = i
    · subst z; exact hg
    · exact h q (by omega)
  · refine .inr ⟨c, e, by omega, gc, fun q hq gq => ?_⟩
    by_cases z : q = i
    · subst z; rw [hg] at gq; cases gq
    · exact h q (by omega) gq
theorem Best.none {k : Nat → Int} {G : Nat → Bool} {i : Nat} (h : Best k G i (-1)) (hg : G i = false) : Best k G (i + 1) i := by
  rcases h with ⟨_, h⟩ | ⟨c, e, _⟩
  · refine .inr ⟨i, rfl, by omega, hg, fun q hq gq => ?_⟩
    by_cases z : q = i
    · exact .inl z
    · rw [h q (by omega)] at gq; cases gq
  · omega
theorem Best.more {k : Nat → Int} {G : Nat → Bool} {i c : Nat} (h : Best k G i c) (hg : G i = false) (hk : k c < k i) : Best k G (i + 1) i := by
  rcases h with ⟨e, h⟩ | ⟨c', e, ci, gc, h⟩
  · omega
  · obtain rfl : c = c' := by omega
    refine .inr ⟨i, rfl, by omega, hg, fun q hq gq => ?_⟩
    by_cases z : q = i
    · exact .inl z
    · rcases h q (by omega) gq with rfl | l | ⟨l, _⟩
      · exact .inr (.inl hk)
      · exact .inr (.inl (by omega))
      · exact .inr (.inl (by omega))
theorem Best.less {k : Nat → Int} {G : Nat → Bool} {i c : Nat} (h : Best k G i c) (hk : ¬ k c < k i) : Best k G (i + 1) c := by
  rcases h with ⟨e, h⟩ | ⟨c', e, ci, gc, h⟩
  · omega
  · obtain rfl : c = c' := by omega
    refine .inr ⟨c, rfl, by omega, gc, fun q hq gq => ?_⟩
    by_cases z : q = i
    · subst z
      by_cases y : k c = k q
      · exact .inr (.inr ⟨y, ci⟩)
      · exact .inr (.inl (by omega))
    · exact h q (by omega) gq
/-- Who has been given, after s rounds. -/
def gotB (d : Nat → Int) (s q : Nat) : Bool := (List.range s).any fun j => d j == (q : Int)
theorem gotB_iff (d : Nat → Int) (s q : Nat) : gotB d s q = true ↔ Giv d s q := by
  unfold gotB Giv
  rw [List.any_eq_true]
  constructor
  · rintro ⟨j, hj, e⟩; exact ⟨j, by simpa using hj, by simpa using e⟩
  · rintro ⟨j, hj, e⟩; exact ⟨j, by simpa using hj, by simpa using e⟩
theorem gotB_zero (d : Nat → Int) (q : Nat) : gotB d 0 q = false := by simp [gotB]
theorem gotB_succ (d : Nat → Int) (s q : Nat) : gotB d (s + 1) q = (gotB d s q || d s == (q : Int)) := by
  unfold gotB; rw [List.range_succ, List.any_append]; simp
theorem gotB_not {d : Nat → Int} {s q : Nat} (h : gotB d s q = false) : ¬ Giv d s q := fun g => by rw [(gotB_iff d s q).2 g] at h; cases h
/-- What the search ends with is the next one of the order. -/
theorem Best.next {r : Nat → Int} {n s : Nat} {d : Nat → Int} {b : Int} (ho : Ordered (keyOf r) n d) (hs : s < n) (h : Best r (gotB d s) n b) : b = d s ∧ 0 ≤ b ∧ b < n := by
  have rs' := ho.inR s hs
  have ns : gotB d s (d s).toNat = false := by
    cases e : gotB d s (d s).toNat
    · rfl
    · obtain ⟨j, hj, hd⟩ := (gotB_iff _ _ _).1 e
      have := ho.inj j s (by omega) hs (by omega); omega
  rcases h with ⟨_, h⟩ | ⟨c, rfl, cn, gc, h⟩
  · rw [h _ (by omega)] at ns; cases ns
  · refine ⟨?_, by omega, by omega⟩
    rcases h (d s).toNat (by omega) ns with e | e
    · omega
    · exfalso
      obtain ⟨j, jn, hj⟩ := ho.surj c cn
      have js : s < j := by
        by_cases z : j < s
        · exact absurd ⟨j, z, hj⟩ (gotB_not gc)
        · by_cases y : j = s
          · subst y
            rw [hj, Int.toNat_natCast] at e
            omega
          · omega
      have l := ho.2 s j (Nat.zero_le _) js jn
      rw [hj] at l
      unfold L keyOf at l
      rw [Int.toNat_natCast] at l
      omega
/-- The key of one who has not been given is what is left of his share. -/
theorem key_left {W T : Int} {wt d : Nat → Int} {n s q : Nat} (ho : Ordered (keyOf (rs W wt T)) n d) (hs : s ≤ n) (hg : gotB d s q = false) : W * wt q - addU d (bs W wt T) s q * T = rs W wt T q := by
  rw [addU_not d _ n s ho.inR hs q (gotB_not hg)]
  have := bs_eq W wt T q
  rw [Int.mul_comm] at this; omega
theorem up_got {d : Nat → Int} {s : Nat} (q : Nat) (h0 : 0 ≤ d s) : (if q = (d s).toNat then true else gotB d s q) = gotB d (s + 1) q := by
  rw [gotB_succ]
  by_cases e : q = (d s).toNat
  · rw [if_pos e]
    have : (d s == (q : Int)) = true := by simp; omega
    rw [this]; simp
  · rw [if_neg e]
    have : (d s == (q : Int)) = false := by simp; omega
    rw [this]; simp

end Go.Proofs.Ytkbbofpjelgiiab
