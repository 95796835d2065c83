/-
  The order in which entries are posted: a book is what was there and what was posted. No condition but those that each theorem names.
-/
import Derived.Test.YtklbikifcebckaaHMath
namespace Go.Proofs.Ytklbikifcebckaa
set_option linter.unusedVariables false

theorem nodup_len : ∀ (l m : List ByteArray), l.Nodup → (∀ a ∈ l, a ∈ m) → l.length ≤ m.length
  | [], _, _, _ => Nat.zero_le _
  | a :: r, m, hn, h => by
    rw [List.nodup_cons] at hn
    obtain ⟨s, t, rfl⟩ := List.append_of_mem (h a (by simp))
    have ih := nodup_len r (s ++ t) hn.2 fun x hx => by
      have := h x (by simp [hx])
      rw [List.mem_append, List.mem_cons] at this
      rw [List.mem_append]
      rcases this with h1 | h1 | h1
      · exact .inl h1
      · subst h1; exact absurd hx hn.1
      · exact .inr h1
    simp only [List.length_append, List.length_cons] at ih ⊢
    omega
/-- What came of posting some entries to a book: these were posted. -/
structure Ord (b x : Bk) (done : List Et) : Prop where
  good : Good x
  acs : x.acs = b.acs
  shut : x.shut = b.shut
  mem : ∀ e, e ∈ x.ens ↔ e ∈ b.ens ∨ e ∈ done
  late : ∀ e ∈ done, e ∈ b.ens ∨ b.shut < e.day
theorem Ord.refl {b : Bk} (g : Good b) : Ord b b [] := ⟨g, rfl, rfl, fun e => by simp, fun e h => by cases h⟩
theorem Ord.step {b x : Bk} {done : List Et} {e : Et} (h : Ord b x done) (ok : poE x e = 0) : Ord b (poV x e) (done ++ [e]) := by
  obtain ⟨g, hm, ha, hs, hmem⟩ := Good.post ok
  obtain ⟨_, _, hor⟩ := poE_ok ok
  refine ⟨g, ha.trans h.acs, hs.trans h.shut, fun z => ?_, fun z hz => ?_⟩
  · rw [hmem, h.mem, List.mem_append, List.mem_singleton]
    constructor
    · rintro (rfl | h | h)
      · exact .inr (.inr rfl)
      · exact .inl h
      · exact .inr (.inl h)
    · rintro (h | h | rfl)
      · exact .inr (.inl h)
      · exact .inr (.inr h)
      · exact .inl rfl
  · rcases List.mem_append.1 hz with hz | hz
    · exact h.late z hz
    · rw [List.mem_singleton] at hz
      subst hz
      rcases hor with ⟨hin, _⟩ | ⟨_, _, hlt, _, _⟩
      · rcases (h.mem z).1 hin with hb | hd
        · exact .inl hb
        · exact h.late z hd
      · exact .inr (by rw [h.shut] at hlt; exact hlt)
/-- A book between the first and what came of it. -/
structure Part (b x y : Bk) : Prop where
  good : Good y
  acs : y.acs = b.acs
  shut : y.shut = b.shut
  sub : ∀ e ∈ y.ens, e ∈ x.ens
  sup : ∀ e ∈ b.ens, e ∈ y.ens
theorem Part.refl {b x : Bk} {done : List Et} (g : Good b) (h : Ord b x done) : Part b x b := ⟨g, rfl, rfl, fun e he => (h.mem e).2 (.inl he), fun e he => he⟩
/-- Each that was posted may be posted in any order. -/
theorem Part.step {b x y : Bk} {done : List Et} {e : Et} (h : Ord b x done) (p : Part b x y) (he : e ∈ done) : poE y e = 0 ∧ Part b x (poV y e) ∧ e ∈ (poV y e).ens ∧ ∀ z ∈ y.ens, z ∈ (poV y e).ens := by
  have hx : e ∈ x.ens := (h.mem e).2 (.inr he)
  have ok : poE y e = 0 := by
    by_cases hy : ∃ z ∈ y.ens, z.key = e.key
    · obtain ⟨z, hz, hk⟩ := hy
      have : z = e := h.good.key_inj (p.sub z hz) hx hk
      subst this
      exact (poE_mem p.good hz).1
    · have hk : ∀ z ∈ y.ens, z.key ≠ e.key := fun z hz hk => hy ⟨z, hz, hk⟩
      have hday : b.shut < e.day := by
        rcases h.late e he with hb | hl
        · exact absurd rfl (hk e (p.sup e hb))
        · exact hl
      have hox := h.good.each e hx
      refine poE_new p.good (by rw [p.acs, ← h.acs]; exact hox) hk (by rw [p.shut]; exact hday) ?_
      have hlen := nodup_len (e.key :: y.ens.map Et.key) (x.ens.map Et.key) (List.nodup_cons.2 ⟨fun hm => by
          obtain ⟨z, hz, hk2⟩ := List.mem_map.1 hm
          exact hk z hz hk2, p.good.keys⟩) (fun a ha => by
          rcases List.mem_cons.1 ha with rfl | ha
          · exact List.mem_map.2 ⟨e, hx, rfl⟩
          · obtain ⟨z, hz, rfl⟩ := List.mem_map.1 ha
            exact List.mem_map.2 ⟨z, p.sub z hz, rfl⟩)
      simp only [List.length_cons, List.length_map] at hlen
      have := h.good.many
      omega
  obtain ⟨g, hm, ha, hs, hmem⟩ := Good.post ok
  exact ⟨ok, ⟨g, ha.trans p.acs, hs.trans p.shut, fun z hz => by
    rcases (hmem z).1 hz with rfl | hz
    · exact hx
    · exact p.sub z hz, fun z hz => (hmem z).2 (.inr (p.sup z hz))⟩, hm, fun z hz => (hmem z).2 (.inr hz)⟩
theorem Ord.pstep {b x y : Bk} {done : List Et} {e : Et} (h : Ord b x done) (p : Part b x y) (he : e ∈ done) : poE y e = 0 ∧ Part b x (poV y e) ∧ e ∈ (poV y e).ens ∧ ∀ z ∈ y.ens, z ∈ (poV y e).ens := Part.step h p he
/-- When all of them are there, it is the same book. -/
theorem Part.all {b x y : Bk} {done : List Et} (h : Ord b x done) (p : Part b x y) (hall : ∀ e ∈ done, e ∈ y.ens) : y = x := by
  have e1 : y.ens = x.ens := p.good.srt.ext h.good.srt fun z => ⟨p.sub z, fun hz => by
    rcases (h.mem z).1 hz with hb | hd
    · exact p.sup z hb
    · exact hall z hd⟩
  have e2 : y.acs = x.acs := p.acs.trans h.acs.symm
  have e3 : y.shut = x.shut := p.shut.trans h.shut.symm
  cases y; cases x; simp_all
end Go.Proofs.Ytklbikifcebckaa
