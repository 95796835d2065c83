/-
  How many are tied: the most that can be (Glover). No condition but those that each theorem names.
-/
import Derived.Test.YtdgiljndoeldcaaGTieS
import Derived.Test.YtdgiljndoeldcaaGMath
namespace Go.Proofs.Ytdgiljndoeldcaa
set_option linter.unusedVariables false

theorem gr_some {ok : Nat → Nat → Bool} {x y : Nat} {A B : List Nat} (h : B.find? (ok x) = some y) : gr ok (x :: A) B = (x, y) :: gr ok A (B.erase y) := by
  rw [gr, h]
theorem gr_none {ok : Nat → Nat → Bool} {x : Nat} {A B : List Nat} (h : B.find? (ok x) = none) : gr ok (x :: A) B = gr ok A B := by
  rw [gr, h]
theorem tieR_out {ok : Nat → Nat → Bool} : ∀ {A O : List Nat} {T : Nat → Int} {i : Nat}, i ∉ A → tieR ok A O T i = T i
  | [], O, T, i, _ => rfl
  | x :: A, O, T, i, h => by
    have hx : i ≠ x := fun e => h (by rw [e]; exact List.mem_cons_self ..)
    have hA : i ∉ A := fun e => h (List.mem_cons_of_mem _ e)
    cases e : O.find? (ok x) with
    | some y => rw [tieR_some e, tieR_out hA, up_ne _ _ hx]
    | none => rw [tieR_none e, tieR_out hA, up_ne _ _ hx]
theorem tieR_in {ok : Nat → Nat → Bool} : ∀ {A O : List Nat} {T : Nat → Int} {i : Nat}, A.Nodup → i ∈ A → tieR ok A O T i = -1 ∨ ∃ y : Nat, (i, y) ∈ gr ok A O ∧ tieR ok A O T i = y
  | [], O, T, i, _, h => by cases h
  | x :: A, O, T, i, nd, h => by
    have nd' := List.pairwise_cons.1 nd
    have hxA : x ∉ A := fun e => nd'.1 x e rfl
    by_cases c : i = x
    · subst c
      cases e : O.find? (ok i) with
      | some y => exact .inr ⟨y, by rw [gr_some e]; exact List.mem_cons_self .., by rw [tieR_some e, tieR_out hxA, up_same]⟩
      | none => exact .inl (by rw [tieR_none e, tieR_out hxA, up_same])
    · have hA : i ∈ A := by
        rcases List.mem_cons.1 h with e | e
        · exact absurd e c
        · exact e
      cases e : O.find? (ok x) with
      | some y =>
        rw [tieR_some e, gr_some e]
        rcases tieR_in (O := O.erase y) (T := up T x y) nd'.2 hA with e | ⟨z, m, e⟩
        · exact .inl e
        · exact .inr ⟨z, List.mem_cons_of_mem _ m, e⟩
      | none =>
        rw [tieR_none e, gr_none e]
        exact tieR_in nd'.2 hA
/-- How many of them are tied. -/
def tdI : List Int → Int
  | [] => 0
  | x :: r => (if 0 ≤ x then 1 else 0) + tdI r
theorem tdI_app : ∀ l m : List Int, tdI (l ++ m) = tdI l + tdI m
  | [], m => by simp [tdI]
  | x :: r, m => by rw [List.cons_append, tdI, tdI_app r m, tdI]; omega
theorem tdI_perm {l m : List Int} (h : l.Perm m) : tdI l = tdI m := by
  induction h with
  | nil => rfl
  | cons x _ ih => rw [tdI, tdI, ih]
  | swap x y l => rw [tdI, tdI, tdI, tdI]; omega
  | trans _ _ a b => exact a.trans b
theorem tdI_bd : ∀ l : List Int, 0 ≤ tdI l ∧ tdI l ≤ l.length
  | [] => by simp [tdI]
  | x :: r => by have := tdI_bd r; rw [tdI, List.length_cons]; split <;> omega
theorem tdI_gr {ok : Nat → Nat → Bool} : ∀ {A O : List Nat} {T : Nat → Int}, A.Nodup → tdI (A.map (tieR ok A O T)) = ((gr ok A O).length : Int)
  | [], O, T, _ => rfl
  | x :: A, O, T, nd => by
    have nd' := List.pairwise_cons.1 nd
    have hxA : x ∉ A := fun e => nd'.1 x e rfl
    rw [List.map_cons, tdI]
    cases e : O.find? (ok x) with
    | some y => rw [tieR_some e, gr_some e, tdI_gr nd'.2, tieR_out hxA, up_same, if_pos (by omega), List.length_cons]; omega
    | none => rw [tieR_none e, gr_none e, tdI_gr nd'.2, tieR_out hxA, up_same, if_neg (by omega)]; omega
theorem tieL_td (a b : List Mv) (h : Int) : tdI (tieL a b h) = ((gr (tieF a b h) (srtN a) (srtN b)).length : Int) := by
  rw [← tdI_gr (T := fun _ => 0) (srtN_nodup a)]
  unfold tieL tab
  exact (tdI_perm ((srtN_perm a).map (tieX a b h))).symm
/-- GLOVER, of two lists of items: no matching has more. -/
theorem tie_most {a b : List Mv} {h : Int} {n : Nat} (m : Mt (tieF a b h) (srtN a) (srtN b) n) : (n : Int) ≤ tdI (tieL a b h) := by
  rw [tieL_td]
  have := glover (lx := lN a) (ly := lN b) (ok := tieF a b h) (fun x x' l y z k o1 o2 o3 => by
    unfold tieF fitB at *
    unfold lN at l k
    simp only [Bool.and_eq_true, decide_eq_true_eq] at o1 o2 o3 ⊢
    omega) (srtN_srt a) (srtN_srt b) m
  omega
theorem tie_mt (a b : List Mv) (h : Int) : Mt (tieF a b h) (srtN a) (srtN b) (tdI (tieL a b h)).toNat := by
  rw [tieL_td, Int.toNat_natCast]
  exact gr_mt _ _
/-- By the places in any order. -/
theorem mt_range {a b : List Mv} {h : Int} {n : Nat} : Mt (tieF a b h) (List.range a.length) (List.range b.length) n → Mt (tieF a b h) (srtN a) (srtN b) n := fun m =>
  Mt.permA (srtN_perm a).symm (m.perm (srtN_perm b).symm)
theorem range_mt {a b : List Mv} {h : Int} {n : Nat} (m : Mt (tieF a b h) (srtN a) (srtN b) n) : Mt (tieF a b h) (List.range a.length) (List.range b.length) n :=
  Mt.permA (srtN_perm a) (m.perm (srtN_perm b))
theorem Mt.congr {α β : Type} {ok ok' : α → β → Bool} {A : List α} {B : List β} {n : Nat} (h : Mt ok A B n) : (∀ x ∈ A, ∀ y, ok x y = true → ok' x y = true) → Mt ok' A B n := by
  induction h with
  | nil => intro _; exact .nil
  | skip _ ih => intro w; exact .skip (ih (fun x hx => w x (List.mem_cons_of_mem _ hx)))
  | take q o m ih => intro w; exact .take q (w _ (List.mem_cons_self ..) _ o) (ih (fun x hx => w x (List.mem_cons_of_mem _ hx)))
/-- A matching given by pairs. -/
theorem mt_pairs {α β : Type} [DecidableEq β] {ok : α → β → Bool} {P : List (α × β)} {A : List α} (h : (P.map Prod.fst).Sublist A) : ∀ {B : List β}, (P.map Prod.snd).Nodup → (∀ p ∈ P, p.2 ∈ B ∧ ok p.1 p.2 = true) → Mt ok A B P.length := by
  generalize hq : P.map Prod.fst = Q at h
  induction h generalizing P with
  | slnil =>
    intro B _ _
    have : P = [] := by simpa using hq
    subst this; exact .nil
  | cons x _ ih =>
    intro B nd hp
    exact .skip (ih hq nd hp)
  | cons_cons x _ ih =>
    intro B nd hp
    cases P with
    | nil => cases hq
    | cons p R =>
      rw [List.map_cons] at hq nd
      injection hq with e1 e2
      have nd' := List.pairwise_cons.1 nd
      have hp0 := hp p (List.mem_cons_self ..)
      rw [List.length_cons]
      refine .take (List.perm_cons_erase hp0.1) (by rw [← e1]; exact hp0.2) (ih e2 nd'.2 (fun r hr => ?_))
      have hr0 := hp r (List.mem_cons_of_mem _ hr)
      have ne : p.2 ≠ r.2 := nd'.1 r.2 (List.mem_map_of_mem hr)
      exact ⟨(List.mem_erase_of_ne ne.symm).2 hr0.1, hr0.2⟩
theorem fitB_symm (h : Int) (x y : Mv) : fitB h x y = fitB h y x := by
  unfold fitB
  rw [decide_eq_decide.2 (show x.2 = y.2 ↔ y.2 = x.2 from ⟨Eq.symm, Eq.symm⟩), decide_eq_decide.2 (show max (x.1 - y.1) (y.1 - x.1) ≤ h ↔ max (y.1 - x.1) (x.1 - y.1) ≤ h by omega)]
theorem tieF_symm (a b : List Mv) (h : Int) (i j : Nat) : tieF a b h i j = tieF b a h j i := fitB_symm h _ _
/-- From the other side, as many. -/
theorem tie_flip_le (a b : List Mv) (h : Int) : tdI (tieL a b h) ≤ tdI (tieL b a h) := by
  have m := (tie_mt a b h).flip
  have m2 : Mt (tieF b a h) (srtN b) (srtN a) (tdI (tieL a b h)).toNat := m.congr (fun y _ x o => by rw [← tieF_symm]; exact o)
  have := tie_most m2
  have := (tdI_bd (tieL a b h)).1
  omega
theorem tie_flip (a b : List Mv) (h : Int) : tdI (tieL a b h) = tdI (tieL b a h) := Int.le_antisymm (tie_flip_le a b h) (tie_flip_le b a h)
theorem tie_wider (a b : List Mv) {h k : Int} (hk : h ≤ k) : tdI (tieL a b h) ≤ tdI (tieL a b k) := by
  have m2 : Mt (tieF a b k) (srtN a) (srtN b) (tdI (tieL a b h)).toNat := (tie_mt a b h).congr (fun x _ y o => by
    unfold tieF fitB at *
    simp only [Bool.and_eq_true, decide_eq_true_eq] at o ⊢
    omega)
  have := tie_most m2
  have := (tdI_bd (tieL a b h)).1
  omega
theorem tie_more (a b : List Mv) (x : Mv) (h : Int) : tdI (tieL a b h) ≤ tdI (tieL (a ++ [x]) b h) := by
  have m := range_mt (tie_mt a b h)
  have m2 : Mt (tieF (a ++ [x]) b h) (List.range a.length) (List.range b.length) (tdI (tieL a b h)).toNat := m.congr (fun i hi y o => by
    have hi := List.mem_range.1 hi
    have e : itN (a ++ [x]) i = itN a i := by
      rw [itN_get _ _ (by rw [List.length_append]; omega), itN_get _ _ hi, List.getElem_append_left hi]
    unfold tieF at *
    rw [e]; exact o)
  have m3 : Mt (tieF (a ++ [x]) b h) (List.range (a ++ [x]).length) (List.range b.length) (tdI (tieL a b h)).toNat := by
    have e : (a ++ [x]).length = a.length + 1 := by simp
    rw [e, List.range_succ]
    exact Mt.permA (List.perm_append_comm (l₁ := [a.length]) (l₂ := List.range a.length)) (.skip m2)
  have := tie_most (mt_range m3)
  have := (tdI_bd (tieL a b h)).1
  omega
theorem tie_self (a : List Mv) {h : Int} (h0 : 0 ≤ h) : tdI (tieL a a h) = a.length := by
  have m : Mt (tieF a a h) (srtN a) (srtN a) (srtN a).length := Mt.self (fun x _ => by
    unfold tieF fitB
    rw [Bool.and_eq_true]
    exact ⟨decide_eq_true rfl, decide_eq_true (by omega)⟩)
  have := tie_most m
  have := (tdI_bd (tieL a a h)).2
  rw [srtN_len] at *
  rw [tieL_len] at this
  omega
theorem tie_apart (a b : List Mv) (h : Int) (hne : ∀ x ∈ a, ∀ y ∈ b, x.2 ≠ y.2) : tdI (tieL a b h) = 0 := by
  rw [tieL_td]
  cases e : gr (tieF a b h) (srtN a) (srtN b) with
  | nil => rfl
  | cons p r =>
    exfalso
    have hp : p ∈ gr (tieF a b h) (srtN a) (srtN b) := by rw [e]; exact List.mem_cons_self ..
    obtain ⟨o, h1, h2⟩ := gr_ok hp
    have l1 := srtN_lt a h1
    have l2 := srtN_lt b h2
    unfold tieF fitB at o
    simp only [Bool.and_eq_true, decide_eq_true_eq] at o
    rw [itN_get a _ l1, itN_get b _ l2] at o
    exact hne _ (List.getElem_mem l1) _ (List.getElem_mem l2) o.1
/-- Each tie is a fit, none is tied twice. -/
structure TieFit (a b : List Mv) (h : Int) (X : Nat → Int) : Prop where
  val : ∀ i, i < a.length → X i = -1 ∨ ∃ y : Nat, y < b.length ∧ X i = y ∧ tieF a b h i y = true
  once : ∀ i j, i < a.length → j < a.length → i ≠ j → X i = X j → X i = -1
theorem tie_fit (a b : List Mv) (h : Int) : TieFit a b h (tieX a b h) := by
  have key : ∀ i, i < a.length → tieX a b h i = -1 ∨ ∃ y : Nat, (i, y) ∈ gr (tieF a b h) (srtN a) (srtN b) ∧ tieX a b h i = y := fun i hi =>
    tieR_in (srtN_nodup a) ((srtN_perm a).symm.subset (List.mem_range.2 hi))
  refine ⟨fun i hi => ?_, fun i j hi hj ne e => ?_⟩
  · rcases key i hi with e | ⟨y, m, e⟩
    · exact .inl e
    · obtain ⟨o, _, h2⟩ := gr_ok m
      exact .inr ⟨y, srtN_lt b h2, e, o⟩
  · rcases key i hi with e1 | ⟨y, m1, e1⟩
    · exact e1
    · rcases key j hj with e2 | ⟨z, m2, e2⟩
      · rw [e, e2]
      · exfalso
        have yz : y = z := by omega
        subst yz
        have nd := gr_once (ok := tieF a b h) (A := srtN a) (srtN_nodup b)
        obtain ⟨p, hp, ep⟩ := List.getElem_of_mem m1
        obtain ⟨q, hq, eq⟩ := List.getElem_of_mem m2
        have pq : p ≠ q := fun k => by
          subst k
          rw [ep] at eq
          exact ne (Prod.mk.inj eq).1
        have np := List.pairwise_iff_getElem.1 nd
        rcases Nat.lt_or_gt_of_ne pq with c | c
        · have := np p q (by simpa using hp) (by simpa using hq) c
          simp only [List.getElem_map, ep, eq] at this
          exact this rfl
        · have := np q p (by simpa using hq) (by simpa using hp) c
          simp only [List.getElem_map, ep, eq] at this
          exact this rfl
end Go.Proofs.Ytdgiljndoeldcaa
