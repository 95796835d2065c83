/-
  Items by days: sorting as they stand, paying the oldest first, ages. No condition but those that each theorem names.
-/
import Derived.Test.YtdgiljndoeldcaaGMath
namespace Go.Proofs.Ytdgiljndoeldcaa
set_option linter.unusedVariables false

/-- P46: an item that may be (day, amount). -/
def itB (x : Mv) : Bool := decide (0 ≤ x.1) && decide (x.1 ≤ 292193) && decide (1 ≤ x.2) && decide (x.2 ≤ 1000000000000)
/-- P46: the error of a list of items. -/
def itE (l : List Mv) : Int := if 40 < l.length then 2 else if l.all itB = true then 0 else 1
structure ItOk (l : List Mv) : Prop where
  len : l.length ≤ 40
  it : ∀ x ∈ l, 0 ≤ x.1 ∧ x.1 ≤ 292193 ∧ 1 ≤ x.2 ∧ x.2 ≤ 1000000000000
theorem itB_iff {x : Mv} : itB x = true ↔ 0 ≤ x.1 ∧ x.1 ≤ 292193 ∧ 1 ≤ x.2 ∧ x.2 ≤ 1000000000000 := by
  unfold itB; simp only [Bool.and_eq_true, decide_eq_true_eq, and_assoc]
theorem itE_iff {l : List Mv} : itE l = 0 ↔ ItOk l := by
  unfold itE
  constructor
  · intro h
    split at h
    · cases h
    · split at h
      · rename_i h1 h2
        exact ⟨by omega, fun x hx => itB_iff.1 (List.all_eq_true.1 h2 x hx)⟩
      · cases h
  · intro h
    rw [if_neg (by have := h.len; omega), if_pos (List.all_eq_true.2 fun x hx => itB_iff.2 (h.it x hx))]
theorem ItOk.csm : ∀ {l : List Mv}, (∀ x ∈ l, 0 ≤ x.1 ∧ x.1 ≤ 292193 ∧ 1 ≤ x.2 ∧ x.2 ≤ 1000000000000) → (l.length : Int) ≤ Go.Proofs.Ytdgiljndoeldcaa.csm l ∧ Go.Proofs.Ytdgiljndoeldcaa.csm l ≤ 1000000000000 * (l.length : Int)
  | [], _ => by simp [Go.Proofs.Ytdgiljndoeldcaa.csm]
  | x :: r, h => by
    have h1 := h x (List.mem_cons_self ..)
    have h2 := ItOk.csm (l := r) (fun m hm => h m (List.mem_cons_of_mem _ hm))
    rw [Go.Proofs.Ytdgiljndoeldcaa.csm, List.length_cons]
    omega

/-! Sorted by days, those of one day as they stand. -/
def insD (x : Mv) : List Mv → List Mv
  | [] => [x]
  | y :: r => if x.1 < y.1 then x :: y :: r else y :: insD x r
def srtD (l : List Mv) : List Mv := l.foldl (fun s x => insD x s) []
def SrtD (l : List Mv) : Prop := l.Pairwise fun x y => x.1 ≤ y.1
theorem insD_perm (x : Mv) : ∀ l : List Mv, (insD x l).Perm (x :: l)
  | [] => .refl _
  | y :: r => by
    unfold insD
    split
    · exact .refl _
    · exact ((insD_perm x r).cons y).trans (.swap _ _ _)
theorem insD_srt (x : Mv) : ∀ {l : List Mv}, SrtD l → SrtD (insD x l)
  | [], _ => List.pairwise_singleton _ _
  | y :: r, h => by
    have h' := List.pairwise_cons.1 h
    unfold insD
    split
    · rename_i c
      exact List.pairwise_cons.2 ⟨fun z hz => by
        rcases List.mem_cons.1 hz with rfl | hz
        · omega
        · have := h'.1 z hz; omega, h⟩
    · rename_i c
      exact List.pairwise_cons.2 ⟨fun z hz => by
        rcases List.mem_cons.1 ((insD_perm x r).subset hz) with rfl | hz
        · omega
        · exact h'.1 z hz, insD_srt x h'.2⟩
theorem srtD_snoc (l : List Mv) (x : Mv) : srtD (l ++ [x]) = insD x (srtD l) := by unfold srtD; rw [List.foldl_append]; rfl
theorem foldl_ins : ∀ (l s : List Mv), SrtD s → (l.foldl (fun s x => insD x s) s).Perm (l ++ s) ∧ SrtD (l.foldl (fun s x => insD x s) s)
  | [], s, h => ⟨.refl _, h⟩
  | x :: r, s, h => by
    obtain ⟨a, b⟩ := foldl_ins r (insD x s) (insD_srt x h)
    refine ⟨?_, b⟩
    rw [List.foldl_cons]
    exact a.trans (((insD_perm x s).append_left r).trans List.perm_middle)
theorem srtD_perm (l : List Mv) : (srtD l).Perm l := by
  have := (foldl_ins l [] List.Pairwise.nil).1
  rwa [List.append_nil] at this
theorem srtD_srt (l : List Mv) : SrtD (srtD l) := (foldl_ins l [] List.Pairwise.nil).2
theorem insD_end (x : Mv) : ∀ {l : List Mv}, (∀ y ∈ l, y.1 ≤ x.1) → insD x l = l ++ [x]
  | [], _ => rfl
  | y :: r, h => by
    unfold insD
    rw [if_neg (by have := h y (List.mem_cons_self ..); omega), insD_end x (fun z hz => h z (List.mem_cons_of_mem _ hz))]
    rfl
theorem foldl_id : ∀ {l s : List Mv}, SrtD (s ++ l) → l.foldl (fun s x => insD x s) s = s ++ l
  | [], s, _ => by simp
  | x :: r, s, h => by
    have hx : ∀ y ∈ s, y.1 ≤ x.1 := fun y hy => (List.pairwise_append.1 h).2.2 y hy x (List.mem_cons_self ..)
    have h2 : SrtD ((s ++ [x]) ++ r) := by rw [List.append_assoc]; exact h
    rw [List.foldl_cons, insD_end x hx, foldl_id h2, List.append_assoc]
    rfl
/-- What is in order stays. -/
theorem srtD_id {l : List Mv} (h : SrtD l) : srtD l = l := by
  have := foldl_id (l := l) (s := []) (by simpa using h)
  simpa [srtD] using this
theorem csm_perm {l m : List Mv} (h : l.Perm m) : csm l = csm m := by
  induction h with
  | nil => rfl
  | cons x _ ih => rw [csm, csm, ih]
  | swap x y l => rw [csm, csm, csm, csm]; omega
  | trans _ _ a b => exact a.trans b
theorem ItOk.perm {l m : List Mv} (h : ItOk l) (p : l.Perm m) : ItOk m := ⟨by rw [← p.length_eq]; exact h.len, fun x hx => h.it x (p.symm.subset hx)⟩

/-! Paying. -/
def payL : List Mv → Int → List Mv
  | [], _ => []
  | x :: r, n => if x.2 ≤ n then payL r (n - x.2) else (x.1, x.2 - n) :: r
def payR : List Mv → Int → Int
  | [], n => n
  | x :: r, n => if x.2 ≤ n then payR r (n - x.2) else 0
theorem pay_sum : ∀ {l : List Mv} {n : Int}, (∀ x ∈ l, 1 ≤ x.2) → 0 ≤ n → csm (payL l n) = csm l - (n - payR l n) ∧ 0 ≤ payR l n ∧ payR l n ≤ n ∧ (0 < payR l n → payL l n = [])
  | [], n, _, h0 => by simp [payL, payR, csm]; omega
  | x :: r, n, h, h0 => by
    have hx := h x (List.mem_cons_self ..)
    unfold payL payR
    by_cases c : x.2 ≤ n
    · rw [if_pos c, if_pos c]
      obtain ⟨a, b, d, e⟩ := pay_sum (l := r) (n := n - x.2) (fun y hy => h y (List.mem_cons_of_mem _ hy)) (by omega)
      exact ⟨by rw [a, csm]; omega, b, by omega, e⟩
    · rw [if_neg c, if_neg c]
      exact ⟨by simp only [csm]; omega, Int.le_refl _, h0, fun k => by omega⟩
theorem csm0 : ∀ {l : List Mv}, (∀ x ∈ l, 1 ≤ x.2) → 0 ≤ csm l ∧ (csm l = 0 → l = [])
  | [], _ => ⟨Int.le_refl _, fun _ => rfl⟩
  | x :: r, h => by
    have hx := h x (List.mem_cons_self ..)
    have := (csm0 (l := r) (fun y hy => h y (List.mem_cons_of_mem _ hy))).1
    rw [csm]; exact ⟨by omega, fun k => by omega⟩
theorem pay_it : ∀ {l : List Mv} {n : Int}, (∀ x ∈ l, 0 ≤ x.1 ∧ x.1 ≤ 292193 ∧ 1 ≤ x.2 ∧ x.2 ≤ 1000000000000) → 0 ≤ n → (∀ x ∈ payL l n, 0 ≤ x.1 ∧ x.1 ≤ 292193 ∧ 1 ≤ x.2 ∧ x.2 ≤ 1000000000000) ∧ (payL l n).length ≤ l.length
  | [], n, _, _ => ⟨(fun x hx => by cases hx), Nat.le_refl _⟩
  | x :: r, n, h, h0 => by
    have hx := h x (List.mem_cons_self ..)
    have hr : ∀ y ∈ r, _ := fun y hy => h y (List.mem_cons_of_mem _ hy)
    unfold payL
    by_cases c : x.2 ≤ n
    · rw [if_pos c]
      obtain ⟨a, b⟩ := pay_it (n := n - x.2) hr (by omega)
      exact ⟨a, by rw [List.length_cons]; omega⟩
    · rw [if_neg c]
      refine ⟨fun y hy => ?_, Nat.le_refl _⟩
      rcases List.mem_cons.1 hy with rfl | hy
      · exact ⟨hx.1, hx.2.1, by simp only; omega, by simp only; omega⟩
      · exact hr y hy
theorem pay_srt : ∀ {l : List Mv} {n : Int}, SrtD l → SrtD (payL l n)
  | [], n, _ => List.Pairwise.nil
  | x :: r, n, h => by
    have h' := List.pairwise_cons.1 h
    unfold payL
    split
    · exact pay_srt h'.2
    · exact List.pairwise_cons.2 ⟨fun y hy => h'.1 y hy, h'.2⟩
theorem pay_le {x : Mv} {r : List Mv} {n : Int} (h : x.2 ≤ n) : payL (x :: r) n = payL r (n - x.2) ∧ payR (x :: r) n = payR r (n - x.2) := by
  rw [payL, payR, if_pos h, if_pos h]; exact ⟨rfl, rfl⟩
theorem pay_gt {x : Mv} {r : List Mv} {n : Int} (h : ¬ x.2 ≤ n) : payL (x :: r) n = (x.1, x.2 - n) :: r ∧ payR (x :: r) n = 0 := by
  rw [payL, payR, if_neg h, if_neg h]; exact ⟨rfl, rfl⟩
/-- Paid in two parts, it is as paid at once. -/
theorem pay_twice : ∀ {l : List Mv} {a b : Int}, (∀ x ∈ l, 1 ≤ x.2) → 0 ≤ a → 0 ≤ b → payL (payL l a) b = payL l (a + b) ∧ payR l (a + b) = payR l a + payR (payL l a) b
  | [], a, b, _, _, _ => ⟨rfl, rfl⟩
  | x :: r, a, b, h, ha, hb => by
    have hx := h x (List.mem_cons_self ..)
    have hr : ∀ y ∈ r, 1 ≤ y.2 := fun y hy => h y (List.mem_cons_of_mem _ hy)
    by_cases c : x.2 ≤ a
    · obtain ⟨i, k⟩ := pay_twice (a := a - x.2) (b := b) hr (by omega) hb
      rw [(pay_le c).1, (pay_le c).2, (pay_le (n := a + b) (r := r) (x := x) (by omega)).1, (pay_le (n := a + b) (r := r) (x := x) (by omega)).2, i, show a + b - x.2 = a - x.2 + b by omega, k]
      exact ⟨rfl, rfl⟩
    · rw [(pay_gt c).1, (pay_gt c).2]
      by_cases d : x.2 ≤ a + b
      · have e := pay_le (x := (x.1, x.2 - a)) (r := r) (n := b) (by simp only; omega)
        rw [e.1, e.2, (pay_le d).1, (pay_le d).2]
        simp only
        rw [show b - (x.2 - a) = a + b - x.2 by omega]
        exact ⟨rfl, by omega⟩
      · have e := pay_gt (x := (x.1, x.2 - a)) (r := r) (n := b) (by simp only; omega)
        rw [e.1, e.2, (pay_gt d).1, (pay_gt d).2]
        simp only
        rw [show x.2 - a - b = x.2 - (a + b) by omega]
        exact ⟨rfl, by omega⟩
theorem pay_zero {l : List Mv} (h : ∀ x ∈ l, 1 ≤ x.2) : payL l 0 = l ∧ payR l 0 = 0 := by
  cases l with
  | nil => exact ⟨rfl, rfl⟩
  | cons x r =>
    have hx := h x (List.mem_cons_self ..)
    unfold payL payR
    rw [if_neg (by omega), if_neg (by omega), Int.sub_zero]
    exact ⟨rfl, rfl⟩
theorem pay_all : ∀ {l : List Mv} {m : Int}, (∀ x ∈ l, 1 ≤ x.2) → 0 ≤ m → payL l (csm l + m) = [] ∧ payR l (csm l + m) = m
  | [], m, _, _ => ⟨rfl, by simp [payR, csm]⟩
  | x :: r, m, h, hm => by
    have hr : ∀ y ∈ r, 1 ≤ y.2 := fun y hy => h y (List.mem_cons_of_mem _ hy)
    have c := (csm0 hr).1
    obtain ⟨a, b⟩ := pay_all hr hm
    unfold payL payR
    rw [csm, if_pos (by omega), if_pos (by omega), show x.2 + csm r + m - x.2 = csm r + m by omega]
    exact ⟨a, b⟩
/-- What is later than the first that remains is as it was. -/
theorem pay_later : ∀ {l : List Mv} {n : Int}, SrtD l → ∀ y ∈ l, ∀ x r, payL l n = x :: r → x.1 < y.1 → y ∈ payL l n
  | [], n, _, y, hy, x, r, _, _ => by cases hy
  | z :: l, n, h, y, hy, x, r, e, lt => by
    have h' := List.pairwise_cons.1 h
    unfold payL at e ⊢
    split at e
    · rename_i c
      rw [if_pos c]
      rcases List.mem_cons.1 hy with rfl | hy
      · -- the first one is paid: what remains is not before it
        have xm : x ∈ payL l (n - y.2) := by rw [e]; exact List.mem_cons_self ..
        have key : ∀ (l : List Mv) (n : Int), (∀ w ∈ l, y.1 ≤ w.1) → ∀ w ∈ payL l n, y.1 ≤ w.1 := by
          intro l
          induction l with
          | nil => intro n _ w hw; cases hw
          | cons v l ih =>
            intro n hl w hw
            unfold payL at hw
            split at hw
            · exact ih _ (fun u hu => hl u (List.mem_cons_of_mem _ hu)) w hw
            · rcases List.mem_cons.1 hw with rfl | hw
              · exact hl v (List.mem_cons_self ..)
              · exact hl w (List.mem_cons_of_mem _ hw)
        have := key l _ h'.1 x xm
        omega
      · exact pay_later h'.2 y hy x r e lt
    · rename_i c
      rw [if_neg c]
      injection e with e1 e2
      subst e1
      rcases List.mem_cons.1 hy with rfl | hy
      · simp only at lt; omega
      · exact List.mem_cons_of_mem _ hy

/-! Sums up to a day; ages. -/
/-- All amounts of items up to a day. -/
def cumD (d : Int) : List Mv → Int
  | [] => 0
  | x :: r => (if x.1 ≤ d then x.2 else 0) + cumD d r
theorem cumD_perm {d : Int} {l m : List Mv} (h : l.Perm m) : cumD d l = cumD d m := by
  induction h with
  | nil => rfl
  | cons x _ ih => rw [cumD, cumD, ih]
  | swap x y l => rw [cumD, cumD, cumD, cumD]; omega
  | trans _ _ a b => exact a.trans b
theorem cumD_none : ∀ {l : List Mv} {d : Int}, (∀ x ∈ l, d < x.1) → cumD d l = 0
  | [], _, _ => rfl
  | x :: r, d, h => by
    rw [cumD, if_neg (by have := h x (List.mem_cons_self ..); omega), cumD_none (fun y hy => h y (List.mem_cons_of_mem _ hy))]; rfl
theorem cumD_pos : ∀ {l : List Mv} {d : Int}, (∀ x ∈ l, 1 ≤ x.2) → 0 ≤ cumD d l
  | [], _, _ => Int.le_refl _
  | x :: r, d, h => by
    have := h x (List.mem_cons_self ..)
    have := cumD_pos (l := r) (d := d) (fun y hy => h y (List.mem_cons_of_mem _ hy))
    rw [cumD]; split <;> omega
/-- What is paid is taken from the oldest: up to each day. -/
theorem pay_cum : ∀ {l : List Mv} {n d : Int}, SrtD l → (∀ x ∈ l, 1 ≤ x.2) → 0 ≤ n → cumD d (payL l n) = max 0 (cumD d l - n)
  | [], n, d, _, _, hn => by rw [payL, cumD]; omega
  | x :: r, n, d, h, hp, hn => by
    have h' := List.pairwise_cons.1 h
    have hx := hp x (List.mem_cons_self ..)
    have hr : ∀ y ∈ r, 1 ≤ y.2 := fun y hy => hp y (List.mem_cons_of_mem _ hy)
    have c0 := cumD_pos (d := d) hr
    unfold payL
    by_cases c : x.2 ≤ n
    · rw [if_pos c, pay_cum h'.2 hr (by omega), cumD]
      by_cases k : x.1 ≤ d
      · rw [if_pos k]; omega
      · have := cumD_none (l := r) (d := d) (fun y hy => by have := h'.1 y hy; omega)
        rw [if_neg k, this]; omega
    · rw [if_neg c, cumD, cumD]
      by_cases k : x.1 ≤ d
      · rw [if_pos k, if_pos k]; omega
      · have := cumD_none (l := r) (d := d) (fun y hy => by have := h'.1 y hy; omega)
        rw [if_neg k, if_neg k, this]; omega
/-- The age of an item at a day. -/
def ageD (today : Int) (x : Mv) : Int := max 0 (today - x.1)
/-- Into which of the sums it goes. -/
def bkD (bs : List Int) (today : Int) (x : Mv) : Nat := bs.findIdx fun b => decide (ageD today x ≤ b)
/-- What is in one of the sums. -/
def agK (bs : List Int) (today : Int) (k : Nat) : List Mv → Int
  | [] => 0
  | x :: r => (if bkD bs today x = k then x.2 else 0) + agK bs today k r
/-- P48: the sums. -/
def agL (bs : List Int) (today : Int) (l : List Mv) : List Int := (List.range (bs.length + 1)).map fun k => agK bs today k l
/-- All of an age up to one. -/
def yoD (today b : Int) : List Mv → Int
  | [] => 0
  | x :: r => (if ageD today x ≤ b then x.2 else 0) + yoD today b r
theorem yoD_cum : ∀ (l : List Mv) (today b : Int), 0 ≤ b → yoD today b l = csm l - cumD (today - b - 1) l
  | [], _, _, _ => by simp [yoD, csm, cumD]
  | x :: r, today, b, hb => by
    rw [yoD, csm, cumD, yoD_cum r today b hb]
    unfold ageD
    by_cases c : x.1 ≤ today - b - 1
    · rw [if_neg (by omega), if_pos c]; omega
    · rw [if_pos (by omega), if_neg c]; omega
end Go.Proofs.Ytdgiljndoeldcaa
