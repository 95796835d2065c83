/-
  Matchings, and Glover's way: with both sides in order, the first that fits is as good as any. No condition but those that each theorem names.
-/
import Derived.Test.YtdgiljndoeldcaaPMath
namespace Go.Proofs.Ytdgiljndoeldcaa
set_option linter.unusedVariables false

/-- A matching of so many: some of the one side, each with one of the other side, none twice. -/
inductive Mt {α β : Type} (ok : α → β → Bool) : List α → List β → Nat → Prop
  | nil {B : List β} : Mt ok [] B 0
  | skip {x : α} {A : List α} {B : List β} {n : Nat} : Mt ok A B n → Mt ok (x :: A) B n
  | take {x : α} {y : β} {A : List α} {B C : List β} {n : Nat} : B.Perm (y :: C) → ok x y = true → Mt ok A C n → Mt ok (x :: A) B (n + 1)
section
variable {α β : Type} {ok : α → β → Bool}
theorem Mt.zero : ∀ (A : List α) (B : List β), Mt ok A B 0
  | [], B => .nil
  | x :: A, B => .skip (Mt.zero A B)
theorem Mt.perm {A : List α} {B B' : List β} {n : Nat} (h : Mt ok A B n) (p : B.Perm B') : Mt ok A B' n := by
  induction h generalizing B' with
  | nil => exact .nil
  | skip _ ih => exact .skip (ih p)
  | take q o m ih => exact .take (p.symm.trans q) o m
theorem Mt.wider {ok' : α → β → Bool} {A : List α} {B : List β} {n : Nat} (h : Mt ok A B n) (w : ∀ x y, ok x y = true → ok' x y = true) : Mt ok' A B n := by
  induction h with
  | nil => exact .nil
  | skip _ ih => exact .skip ih
  | take q o m ih => exact .take q (w _ _ o) ih
theorem Mt.more {A : List α} {B : List β} {n : Nat} (h : Mt ok A B n) (y : β) : Mt ok A (y :: B) n := by
  induction h with
  | nil => exact .nil
  | skip _ ih => exact .skip ih
  | take q o m ih => exact .take ((q.cons y).trans (.swap _ _ _)) o ih
theorem Mt.permA {A A' : List α} (p : A.Perm A') : ∀ {B : List β} {n : Nat}, Mt ok A B n → Mt ok A' B n := by
  induction p with
  | nil => intro B n h; exact h
  | cons x _ ih =>
    intro B n h
    cases h with
    | skip h => exact .skip (ih h)
    | take q o h => exact .take q o (ih h)
  | swap x y l =>
    intro B n h
    cases h with
    | skip h =>
      cases h with
      | skip h => exact .skip (.skip h)
      | take q o h => exact .take q o (.skip h)
    | take q o h =>
      cases h with
      | skip h => exact .skip (.take q o h)
      | take q2 o2 h => exact .take (q.trans ((q2.cons _).trans (.swap _ _ _))) o2 (.take (.refl _) o h)
  | trans _ _ i1 i2 => intro B n h; exact i2 (i1 h)
/-- From the other side it is as many. -/
theorem Mt.flip {A : List α} {B : List β} {n : Nat} (h : Mt ok A B n) : Mt (fun y x => ok x y) B A n := by
  induction h with
  | nil => exact Mt.zero _ _
  | skip _ ih => exact ih.more _
  | take q o _ ih => exact Mt.permA q.symm (.take (.refl _) o ih)
variable [DecidableEq β]
theorem perm_two {y u : β} {C D : List β} (h : (y :: C).Perm (u :: D)) : (u = y ∧ C.Perm D) ∨ ∃ E, C.Perm (u :: E) ∧ D.Perm (y :: E) := by
  by_cases e : u = y
  · subst e; exact .inl ⟨rfl, h.cons_inv⟩
  · have hu : u ∈ C := by
      have : u ∈ y :: C := h.symm.subset (List.mem_cons_self ..)
      rcases List.mem_cons.1 this with k | k
      · exact absurd k e
      · exact k
    refine .inr ⟨C.erase u, List.perm_cons_erase hu, ?_⟩
    have h2 : (u :: y :: C.erase u).Perm (u :: D) := (List.Perm.swap _ _ _).trans (((List.perm_cons_erase hu).symm.cons y).trans h)
    exact h2.cons_inv.symm
/-- One less on the other side: at most one less. -/
theorem Mt.drop {A : List α} {B : List β} {n : Nat} (h : Mt ok A B n) : ∀ {y : β} {C : List β}, B.Perm (y :: C) → ∃ m, n ≤ m + 1 ∧ Mt ok A C m := by
  induction h with
  | nil => intro y C _; exact ⟨0, by omega, .nil⟩
  | skip _ ih => intro y C p; obtain ⟨m, a, b⟩ := ih p; exact ⟨m, a, .skip b⟩
  | take q o h ih =>
    intro y C p
    rcases perm_two (p.symm.trans q) with ⟨rfl, k⟩ | ⟨E, k1, k2⟩
    · exact ⟨_, Nat.le_refl _, .skip (h.perm k.symm)⟩
    · obtain ⟨m, a, b⟩ := ih k2
      exact ⟨m + 1, by omega, .take k1 o b⟩
/-- One in another's place. -/
theorem Mt.swapB {A : List α} {B : List β} {n : Nat} (h : Mt ok A B n) : ∀ {y z : β} {C : List β}, B.Perm (y :: C) → (∀ x ∈ A, ok x y = true → ok x z = true) → Mt ok A (z :: C) n := by
  induction h with
  | nil => intro y z C _ _; exact .nil
  | skip _ ih => intro y z C p H; exact .skip (ih p (fun x hx => H x (List.mem_cons_of_mem _ hx)))
  | take q o h ih =>
    intro y z C p H
    rcases perm_two (p.symm.trans q) with ⟨rfl, k⟩ | ⟨E, k1, k2⟩
    · exact .take (.refl _) (H _ (List.mem_cons_self ..) o) (h.perm k.symm)
    · exact .take ((k1.cons z).trans (.swap _ _ _)) o (ih k2 (fun x hx => H x (List.mem_cons_of_mem _ hx)))
/-- Each takes the first that fits. -/
def gr (ok : α → β → Bool) : List α → List β → List (α × β)
  | [], _ => []
  | x :: A, B => match B.find? (ok x) with
    | some y => (x, y) :: gr ok A (B.erase y)
    | none => gr ok A B
theorem gr_mt : ∀ (A : List α) (B : List β), Mt ok A B (gr ok A B).length
  | [], B => .nil
  | x :: A, B => by
    unfold gr
    split
    · rename_i y h
      exact .take (List.perm_cons_erase (List.mem_of_find?_eq_some h)) (List.find?_some h) (gr_mt A _)
    · exact .skip (gr_mt A B)
/-- GLOVER: no matching is larger. -/
theorem glover {lx : α → α → Prop} {ly : β → β → Prop} (mg : ∀ x x', lx x x' → ∀ y z, ly y z → ok x y = true → ok x z = true → ok x' y = true → ok x' z = true) :
    ∀ {A : List α} {B : List β} {n : Nat}, A.Pairwise lx → B.Pairwise ly → Mt ok A B n → n ≤ (gr ok A B).length
  | [], B, n, _, _, h => by cases h; exact Nat.zero_le _
  | x :: A, B, n, hA, hB, h => by
    rw [List.pairwise_cons] at hA
    unfold gr
    split
    · rename_i y hy
      obtain ⟨oy, B1, B2, eB, no⟩ := List.find?_eq_some_iff_append.1 hy
      have pB : B.Perm (y :: B.erase y) := List.perm_cons_erase (List.mem_of_find?_eq_some hy)
      have hE : (B.erase y).Pairwise ly := hB.sublist List.erase_sublist
      rw [List.length_cons]
      cases h with
      | skip h =>
        obtain ⟨m, a, b⟩ := h.drop pB
        have := glover mg hA.2 hE b
        omega
      | take q o h =>
        rename_i z C n
        rcases perm_two (q.symm.trans pB) with ⟨rfl, k⟩ | ⟨E, k1, k2⟩
        · have := glover mg hA.2 hE (h.perm k)
          omega
        · have zB : z ∈ B.erase y := k2.symm.subset (List.mem_cons_self ..)
          have lyz : ly y z ∨ z = y := by
            have zm : z ∈ B := List.mem_of_mem_erase zB
            rw [eB] at zm hB
            rcases List.mem_append.1 zm with k | k
            · have := no z k
              rw [o] at this
              simp at this
            · rcases List.mem_cons.1 k with k | k
              · exact .inr k
              · rw [List.pairwise_append] at hB
                exact .inl ((List.pairwise_cons.1 hB.2.1).1 z k)
          have H : ∀ x' ∈ A, ok x' y = true → ok x' z = true := fun x' hx' hy' => by
            rcases lyz with l | rfl
            · exact mg x x' (hA.1 x' hx') y z l oy o hy'
            · exact hy'
          have := glover mg hA.2 hE ((h.swapB k1 H).perm k2.symm)
          omega
    · rename_i hy
      cases h with
      | skip h => exact glover mg hA.2 hB h
      | take q o h =>
        have := List.find?_eq_none.1 hy _ (q.symm.subset (List.mem_cons_self ..))
        exact absurd o this
/-- What is matched fits, and lies on both sides. -/
theorem gr_ok : ∀ {A : List α} {B : List β} {p : α × β}, p ∈ gr ok A B → ok p.1 p.2 = true ∧ p.1 ∈ A ∧ p.2 ∈ B
  | [], B, p, h => by cases h
  | x :: A, B, p, h => by
    unfold gr at h
    split at h
    · rename_i y hy
      rcases List.mem_cons.1 h with rfl | h
      · exact ⟨List.find?_some hy, List.mem_cons_self .., List.mem_of_find?_eq_some hy⟩
      · obtain ⟨a, b, c⟩ := gr_ok h
        exact ⟨a, List.mem_cons_of_mem _ b, List.mem_of_mem_erase c⟩
    · obtain ⟨a, b, c⟩ := gr_ok h
      exact ⟨a, List.mem_cons_of_mem _ b, c⟩
/-- .. none of the other side twice. -/
theorem gr_once : ∀ {A : List α} {B : List β}, B.Nodup → ((gr ok A B).map Prod.snd).Nodup
  | [], B, _ => List.nodup_nil
  | x :: A, B, h => by
    unfold gr
    split
    · rename_i y hy
      rw [List.map_cons, List.nodup_cons]
      refine ⟨fun k => ?_, gr_once (h.erase y)⟩
      obtain ⟨p, hp, e⟩ := List.mem_map.1 k
      have := (gr_ok hp).2.2
      rw [e] at this
      exact (h.mem_erase_iff.1 this).1 rfl
    · exact gr_once h
theorem gr_len : ∀ (A : List α) (B : List β), (gr ok A B).length ≤ A.length
  | [], B => Nat.le_refl _
  | x :: A, B => by
    unfold gr
    split
    · rename_i y _
      have := gr_len A (B.erase y)
      rw [List.length_cons, List.length_cons]; exact Nat.succ_le_succ this
    · have := gr_len A B; rw [List.length_cons]; omega
end
/-- To itself all is matched, where each fits itself. -/
theorem Mt.self {α : Type} {ok : α → α → Bool} : ∀ {A : List α}, (∀ x ∈ A, ok x x = true) → Mt ok A A A.length
  | [], _ => .nil
  | x :: A, h => .take (.refl _) (h x (List.mem_cons_self ..)) (Mt.self (fun y hy => h y (List.mem_cons_of_mem _ hy)))
end Go.Proofs.Ytdgiljndoeldcaa
