/-
  Inventory costing on lists: what is asked of moves, what Fifo and Mean answer, and what is known of it. No condition but those that each theorem names.
-/
import Derived.Test.YtdgiljndoeldcaaPBase
namespace Go.Proofs.Ytdgiljndoeldcaa
set_option linter.unusedVariables false

/-- A move, a lot: pieces, cost. -/
abbrev Mv := Int × Int
/-- One move's error. -/
def ckM (m : Mv) : Int := if m.1 = 0 ∨ m.1 < -1000000 ∨ 1000000 < m.1 then 1 else if m.2 < 0 ∨ 1000000000000 < m.2 then 1 else if m.1 < 0 ∧ ¬ m.2 = 0 then 3 else 0
/-- The first such error. -/
def ckL : List Mv → Int
  | [] => 0
  | m :: r => if ckM m = 0 then ckL r else ckM m
/-- More issued than there is. -/
def ckS : Int → List Mv → Int
  | _, [] => 0
  | c, m :: r => if c + m.1 < 0 then 8 else ckS (c + m.1) r
/-- P44: the error of a list of moves. -/
def skE (l : List Mv) : Int := if 40 < l.length then 2 else if ckL l = 0 then ckS 0 l else ckL l
/-- All pieces, all costs. -/
def cnt : List Mv → Int
  | [] => 0
  | m :: r => m.1 + cnt r
def csm : List Mv → Int
  | [] => 0
  | m :: r => m.2 + csm r
def sumI : List Int → Int
  | [] => 0
  | x :: r => x + sumI r
theorem cnt_app : ∀ l m : List Mv, cnt (l ++ m) = cnt l + cnt m
  | [], m => by simp [cnt]
  | x :: r, m => by rw [List.cons_append, cnt, cnt_app r m, cnt]; omega
theorem csm_app : ∀ l m : List Mv, csm (l ++ m) = csm l + csm m
  | [], m => by simp [csm]
  | x :: r, m => by rw [List.cons_append, csm, csm_app r m, csm]; omega
theorem sumI_app : ∀ l m : List Int, sumI (l ++ m) = sumI l + sumI m
  | [], m => by simp [sumI]
  | x :: r, m => by rw [List.cons_append, sumI, sumI_app r m, sumI]; omega
theorem take_snocP {α : Type} (l : List α) (j : Nat) (h : j < l.length) : l.take (j + 1) = l.take j ++ [l[j]] := by rw [List.take_succ_eq_append_getElem h]
theorem drop_atP {α : Type} (l : List α) (j : Nat) (h : j < l.length) : l.drop j = l[j] :: l.drop (j + 1) := List.drop_eq_getElem_cons h
theorem ckM_bd (m : Mv) : ckM m = 0 ∨ ckM m = 1 ∨ ckM m = 3 := by
  unfold ckM
  repeat' split
  all_goals simp
theorem ckM_ok {m : Mv} (h : ckM m = 0) : (1 ≤ m.1 ∨ m.1 ≤ -1) ∧ -1000000 ≤ m.1 ∧ m.1 ≤ 1000000 ∧ 0 ≤ m.2 ∧ m.2 ≤ 1000000000000 ∧ (m.1 < 0 → m.2 = 0) := by
  unfold ckM at h
  split at h
  · cases h
  · split at h
    · cases h
    · split at h
      · cases h
      · refine ⟨by omega, by omega, by omega, by omega, by omega, fun hm => ?_⟩
        by_cases e : m.2 = 0
        · exact e
        · rename_i h3; exact absurd ⟨hm, e⟩ h3
theorem ckM_of {m : Mv} (h1 : ¬ m.1 = 0) (h2 : -1000000 ≤ m.1) (h3 : m.1 ≤ 1000000) (h4 : 0 ≤ m.2) (h5 : m.2 ≤ 1000000000000) (h6 : m.1 < 0 → m.2 = 0) : ckM m = 0 := by
  unfold ckM
  rw [if_neg (by omega), if_neg (by omega), if_neg (fun h => h.2 (h6 h.1))]
theorem ckL_ok : ∀ {l : List Mv}, ckL l = 0 → ∀ m ∈ l, ckM m = 0
  | [], _, m, hm => by cases hm
  | x :: r, h, m, hm => by
    unfold ckL at h
    by_cases e : ckM x = 0
    · rw [if_pos e] at h
      rcases List.mem_cons.1 hm with rfl | hm
      · exact e
      · exact ckL_ok h m hm
    · rw [if_neg e] at h
      exact absurd h e
theorem ckL_of : ∀ {l : List Mv}, (∀ m ∈ l, ckM m = 0) → ckL l = 0
  | [], _ => rfl
  | x :: r, h => by unfold ckL; rw [if_pos (h x (List.mem_cons_self ..))]; exact ckL_of (fun m hm => h m (List.mem_cons_of_mem _ hm))
theorem ckS_ok : ∀ {l : List Mv} {c : Int}, ckS c l = 0 → ∀ j, j < l.length → 0 ≤ c + cnt (l.take (j + 1))
  | [], c, _, j, hj => by simp at hj
  | x :: r, c, h, j, hj => by
    unfold ckS at h
    split at h
    · cases h
    · cases j with
      | zero => simp [cnt]; omega
      | succ j =>
        have := ckS_ok h j (by simpa using hj)
        rw [List.take_succ_cons, cnt]; omega
theorem ckS_of : ∀ {l : List Mv} {c : Int}, (∀ j, j < l.length → 0 ≤ c + cnt (l.take (j + 1))) → ckS c l = 0
  | [], c, _ => rfl
  | x :: r, c, h => by
    have h0 := h 0 (by simp)
    simp [cnt] at h0
    unfold ckS
    rw [if_neg (by omega)]
    refine ckS_of fun j hj => ?_
    have := h (j + 1) (by simpa using hj)
    rw [List.take_succ_cons, cnt] at this
    omega
/-- What is known of moves without an error. -/
structure MvOk (l : List Mv) : Prop where
  len : l.length ≤ 40
  mv : ∀ m ∈ l, ckM m = 0
  st : ∀ j, j ≤ l.length → 0 ≤ cnt (l.take j)
theorem skE_ok {l : List Mv} (h : skE l = 0) : MvOk l := by
  unfold skE at h
  split at h
  · cases h
  · split at h
    · rename_i h1 h2
      refine ⟨by omega, ckL_ok h2, fun j hj => ?_⟩
      cases j with
      | zero => simp [cnt]
      | succ j =>
        have := ckS_ok h j (by omega)
        omega
    · rename_i h1 h2
      exact absurd h h2
theorem MvOk.e {l : List Mv} (h : MvOk l) : skE l = 0 := by
  unfold skE
  rw [if_neg (by have := h.len; omega), if_pos (ckL_of h.mv)]
  refine ckS_of fun j hj => ?_
  have := h.st (j + 1) (by omega)
  omega

/-! What is taken from lots. -/
/-- Lots: pieces in each, and costs. -/
def LotsOk (m : List Mv) : Prop := ∀ x ∈ m, 1 ≤ x.1 ∧ x.1 ≤ 1000000 ∧ 0 ≤ x.2 ∧ x.2 ≤ 1000000000000
def tkC : List Mv → Int → Int
  | [], _ => 0
  | x :: r, n => if n ≤ 0 then 0 else if n < x.1 then x.2 * n / x.1 else x.2 + tkC r (n - x.1)
def tkL : List Mv → Int → List Mv
  | [], _ => []
  | x :: r, n => if n ≤ 0 then x :: r else if n < x.1 then (x.1 - n, x.2 - x.2 * n / x.1) :: r else tkL r (n - x.1)
theorem part_bd {k n c : Int} (hk : 0 ≤ k) (h0 : 0 ≤ n) (hn : n ≤ c) (hc : 0 < c) : 0 ≤ k * n / c ∧ k * n / c ≤ k := by
  refine ⟨Int.ediv_nonneg (Int.mul_nonneg hk h0) (by omega), ?_⟩
  have : k * n / c ≤ k * c / c := Int.ediv_le_ediv hc (Int.mul_le_mul_of_nonneg_left hn hk)
  rwa [Int.mul_ediv_cancel _ (by omega)] at this
theorem tk_zero : ∀ (m : List Mv) {n : Int}, n ≤ 0 → tkC m n = 0 ∧ tkL m n = m
  | [], n, _ => ⟨rfl, rfl⟩
  | x :: r, n, h => by unfold tkC tkL; rw [if_pos h, if_pos h]; exact ⟨rfl, rfl⟩
theorem LotsOk.cnt0 : ∀ {m : List Mv}, LotsOk m → 0 ≤ cnt m ∧ 0 ≤ csm m ∧ csm m ≤ 1000000000000 * m.length ∧ cnt m ≤ 1000000 * m.length
  | [], _ => by simp [cnt, csm]
  | x :: r, h => by
    have h1 := h x (List.mem_cons_self ..)
    have h2 := LotsOk.cnt0 (m := r) (fun y hy => h y (List.mem_cons_of_mem _ hy))
    rw [cnt, csm, List.length_cons]
    omega
theorem LotsOk.tail {x : Mv} {r : List Mv} (h : LotsOk (x :: r)) : LotsOk r := fun y hy => h y (List.mem_cons_of_mem _ hy)
theorem LotsOk.head {x : Mv} {r : List Mv} (h : LotsOk (x :: r)) : 1 ≤ x.1 ∧ x.1 ≤ 1000000 ∧ 0 ≤ x.2 ∧ x.2 ≤ 1000000000000 := h x (List.mem_cons_self ..)
theorem tk_ok : ∀ (m : List Mv) {n : Int}, LotsOk m → 0 ≤ n → n ≤ cnt m → LotsOk (tkL m n) ∧ cnt (tkL m n) = cnt m - n ∧ tkC m n + csm (tkL m n) = csm m ∧ 0 ≤ tkC m n ∧ (tkL m n).length ≤ m.length
  | [], n, h, h0, hn => by
    have : n = 0 := by simp [cnt] at hn; omega
    subst this
    simp [tkL, tkC, cnt, csm, LotsOk]
  | x :: r, n, h, h0, hn => by
    obtain ⟨a1, a2, a3, a4⟩ := h.head
    unfold tkC tkL
    by_cases c1 : n ≤ 0
    · rw [if_pos c1, if_pos c1]
      exact ⟨h, by omega, by omega, by omega, Nat.le_refl _⟩
    · rw [if_neg c1, if_neg c1]
      by_cases c2 : n < x.1
      · rw [if_pos c2, if_pos c2]
        obtain ⟨p0, p1⟩ := part_bd a3 h0 (by omega : n ≤ x.1) (by omega)
        refine ⟨fun y hy => ?_, by simp only [cnt]; omega, by simp only [csm]; omega, p0, by simp⟩
        rcases List.mem_cons.1 hy with rfl | hy
        · exact ⟨by simp only; omega, by simp only; omega, by simp only; omega, by simp only; omega⟩
        · exact h.tail y hy
      · rw [if_neg c2, if_neg c2]
        rw [cnt] at hn
        obtain ⟨b1, b2, b3, b4, b5⟩ := tk_ok r h.tail (by omega : 0 ≤ n - x.1) (by omega)
        refine ⟨b1, by rw [b2, cnt]; omega, by rw [csm]; omega, by omega, by rw [List.length_cons]; omega⟩
theorem tk_part {x : Mv} {r : List Mv} {n : Int} (h0 : ¬ n ≤ 0) (h : n < x.1) : tkC (x :: r) n = x.2 * n / x.1 ∧ tkL (x :: r) n = (x.1 - n, x.2 - x.2 * n / x.1) :: r := by
  rw [tkC, tkL, if_neg h0, if_neg h0, if_pos h, if_pos h]; exact ⟨rfl, rfl⟩
theorem tk_all {x : Mv} {r : List Mv} {n : Int} (h0 : ¬ n ≤ 0) (h : ¬ n < x.1) : tkC (x :: r) n = x.2 + tkC r (n - x.1) ∧ tkL (x :: r) n = tkL r (n - x.1) := by
  rw [tkC, tkL, if_neg h0, if_neg h0, if_neg h, if_neg h]; exact ⟨rfl, rfl⟩

/-! Fifo. -/
def ffT (s : List Int × List Mv) (m : Mv) : List Int × List Mv := if 0 < m.1 then (s.1, s.2 ++ [m]) else (s.1 ++ [tkC s.2 (-m.1)], tkL s.2 (-m.1))
def ffS (l : List Mv) : List Int × List Mv := l.foldl ffT ([], [])
theorem ffS_snoc (l : List Mv) (m : Mv) : ffS (l ++ [m]) = ffT (ffS l) m := by unfold ffS; rw [List.foldl_append]; rfl
theorem ffS_at {l : List Mv} {j : Nat} (h : j < l.length) : ffS (l.take (j + 1)) = ffT (ffS (l.take j)) l[j] := by rw [take_snocP l j h, ffS_snoc]
structure FfOk (s : List Int × List Mv) (l : List Mv) : Prop where
  lots : LotsOk s.2
  cn : cnt s.2 = cnt l
  cs : sumI s.1 + csm s.2 = csm l
  pos : ∀ x ∈ s.1, 0 ≤ x
  l1 : s.1.length ≤ l.length
  l2 : s.2.length ≤ l.length
theorem ffT_ok {s : List Int × List Mv} {l : List Mv} {m : Mv} (h : FfOk s l) (hm : ckM m = 0) (hn : 0 ≤ cnt l + m.1) : FfOk (ffT s m) (l ++ [m]) := by
  obtain ⟨h1, h2, h3, h4, h5, h6⟩ := ckM_ok hm
  unfold ffT
  by_cases c : 0 < m.1
  · rw [if_pos c]
    refine ⟨fun x hx => ?_, by simp only [cnt_app, cnt]; have := h.cn; omega, by simp only [csm_app, csm]; have := h.cs; omega, h.pos, by simp; have := h.l1; omega, by simp; have := h.l2; omega⟩
    rcases List.mem_append.1 hx with hx | hx
    · exact h.lots x hx
    · have : x = m := by simpa using hx
      subst this
      exact ⟨by omega, h3, h4, h5⟩
  · rw [if_neg c]
    have hz := h6 (by omega)
    obtain ⟨b1, b2, b3, b4, b5⟩ := tk_ok s.2 h.lots (by omega : 0 ≤ -m.1) (by have := h.cn; omega)
    refine ⟨b1, by simp only [b2, cnt_app, cnt]; have := h.cn; omega, by simp only [sumI_app, sumI, csm_app, csm]; have := h.cs; omega, fun x hx => ?_, by simp; have := h.l1; omega, by simp; have := h.l2; omega⟩
    rcases List.mem_append.1 hx with hx | hx
    · exact h.pos x hx
    · have : x = tkC s.2 (-m.1) := by simpa using hx
      omega
theorem ffS_ok {l : List Mv} (h : MvOk l) : ∀ j, j ≤ l.length → FfOk (ffS (l.take j)) (l.take j)
  | 0, _ => by simpa [ffS] using (⟨(fun x hx => by cases hx), rfl, rfl, (fun x hx => by cases hx), Nat.le_refl _, Nat.le_refl _⟩ : FfOk ([], []) [])
  | j + 1, hj => by
    rw [ffS_at (by omega), take_snocP l j (by omega)]
    refine ffT_ok (ffS_ok h j (by omega)) (h.mv _ (List.getElem_mem _)) ?_
    have := h.st (j + 1) hj
    rw [take_snocP l j (by omega), cnt_app, cnt, cnt] at this
    omega
theorem MvOk.csm : ∀ {l : List Mv}, (∀ m ∈ l, ckM m = 0) → 0 ≤ csm l ∧ csm l ≤ 1000000000000 * l.length
  | [], _ => by simp [Go.Proofs.Ytdgiljndoeldcaa.csm]
  | x :: r, h => by
    have h1 := ckM_ok (h x (List.mem_cons_self ..))
    have h2 := MvOk.csm (l := r) (fun m hm => h m (List.mem_cons_of_mem _ hm))
    rw [Go.Proofs.Ytdgiljndoeldcaa.csm, List.length_cons]
    omega
theorem MvOk.cnt : ∀ {l : List Mv}, (∀ m ∈ l, ckM m = 0) → Go.Proofs.Ytdgiljndoeldcaa.cnt l ≤ 1000000 * l.length ∧ -1000000 * (l.length : Int) ≤ Go.Proofs.Ytdgiljndoeldcaa.cnt l
  | [], _ => by simp [Go.Proofs.Ytdgiljndoeldcaa.cnt]
  | x :: r, h => by
    have h1 := ckM_ok (h x (List.mem_cons_self ..))
    have h2 := MvOk.cnt (l := r) (fun m hm => h m (List.mem_cons_of_mem _ hm))
    rw [Go.Proofs.Ytdgiljndoeldcaa.cnt, List.length_cons]
    omega

/-! Mean. -/
def mnC (s : Mv) (n : Int) : Int := s.2 / s.1 * n + (2 * (s.2 % s.1) * n + s.1) / (2 * s.1)
theorem mnC_eq {s : Mv} {n : Int} (hc : 0 < s.1) : mnC s n = (2 * s.2 * n + s.1) / (2 * s.1) := by
  unfold mnC
  have e : s.2 = s.1 * (s.2 / s.1) + s.2 % s.1 := (Int.mul_ediv_add_emod s.2 s.1).symm
  generalize s.2 / s.1 = q at *
  generalize s.2 % s.1 = r at *
  rw [e]
  have : 2 * (s.1 * q + r) * n + s.1 = (2 * r * n + s.1) + (2 * s.1) * (q * n) := by grind
  rw [this, Int.add_mul_ediv_left _ _ (by omega)]
  omega
theorem mnC_bd {s : Mv} {n : Int} (hc : 0 < s.1) (hk : 0 ≤ s.2) (h0 : 0 ≤ n) (hn : n ≤ s.1) : 0 ≤ mnC s n ∧ mnC s n ≤ s.2 := by
  rw [mnC_eq hc]
  have a : 0 ≤ s.2 * n := Int.mul_nonneg hk h0
  have b : s.2 * n ≤ s.2 * s.1 := Int.mul_le_mul_of_nonneg_left hn hk
  refine ⟨Int.ediv_nonneg (by have : 2 * s.2 * n = 2 * (s.2 * n) := by grind
                              omega) (by omega), ?_⟩
  have : (2 * s.2 * n + s.1) / (2 * s.1) < s.2 + 1 := by
    refine Int.ediv_lt_of_lt_mul (by omega) ?_
    have e1 : 2 * s.2 * n = 2 * (s.2 * n) := by grind
    have e2 : (s.2 + 1) * (2 * s.1) = 2 * (s.2 * s.1) + 2 * s.1 := by grind
    omega
  omega
theorem mnC_all {s : Mv} (hc : 0 < s.1) : mnC s s.1 = s.2 := by
  rw [mnC_eq hc]
  have : 2 * s.2 * s.1 + s.1 = s.1 + (2 * s.1) * s.2 := by grind
  rw [this, Int.add_mul_ediv_left _ _ (by omega), Int.ediv_eq_zero_of_lt (by omega) (by omega)]
  omega
def mmT (s : List Int × Mv) (m : Mv) : List Int × Mv := if 0 < m.1 then (s.1, (s.2.1 + m.1, s.2.2 + m.2)) else (s.1 ++ [mnC s.2 (-m.1)], (s.2.1 + m.1, s.2.2 - mnC s.2 (-m.1)))
def mmS (l : List Mv) : List Int × Mv := l.foldl mmT ([], (0, 0))
theorem mmS_snoc (l : List Mv) (m : Mv) : mmS (l ++ [m]) = mmT (mmS l) m := by unfold mmS; rw [List.foldl_append]; rfl
theorem mmS_at {l : List Mv} {j : Nat} (h : j < l.length) : mmS (l.take (j + 1)) = mmT (mmS (l.take j)) l[j] := by rw [take_snocP l j h, mmS_snoc]
structure MmOk (s : List Int × Mv) (l : List Mv) : Prop where
  c0 : 0 ≤ s.2.1
  k0 : 0 ≤ s.2.2
  cn : s.2.1 = cnt l
  cs : sumI s.1 + s.2.2 = csm l
  pos : ∀ x ∈ s.1, 0 ≤ x
  none : s.2.1 = 0 → s.2.2 = 0
  l1 : s.1.length ≤ l.length
theorem sumI_pos : ∀ {l : List Int}, (∀ x ∈ l, 0 ≤ x) → 0 ≤ sumI l
  | [], _ => by simp [sumI]
  | x :: r, h => by have := h x (List.mem_cons_self ..); have := sumI_pos (l := r) (fun y hy => h y (List.mem_cons_of_mem _ hy)); rw [sumI]; omega
theorem mmT_ok {s : List Int × Mv} {l : List Mv} {m : Mv} (h : MmOk s l) (hm : ckM m = 0) (hn : 0 ≤ cnt l + m.1) : MmOk (mmT s m) (l ++ [m]) := by
  obtain ⟨h1, h2, h3, h4, h5, h6⟩ := ckM_ok hm
  obtain ⟨c0, k0, cn, cs, pos, nn, l1⟩ := h
  unfold mmT
  by_cases c : 0 < m.1
  · rw [if_pos c]
    exact ⟨by simp only; omega, by simp only; omega, by simp only [cnt_app, cnt]; omega, by simp only [csm_app, csm]; omega, pos, by simp only; omega, by simp; omega⟩
  · rw [if_neg c]
    have hz := h6 (by omega)
    obtain ⟨b1, b2⟩ := mnC_bd (s := s.2) (n := -m.1) (by omega) k0 (by omega) (by omega)
    refine ⟨by simp only; omega, by simp only; omega, by simp only [cnt_app, cnt]; omega, by simp only [sumI_app, sumI, csm_app, csm]; omega, fun x hx => ?_, fun hz2 => ?_, by simp; omega⟩
    · rcases List.mem_append.1 hx with hx | hx
      · exact pos x hx
      · have : x = mnC s.2 (-m.1) := by simpa using hx
        omega
    · simp only at hz2 ⊢
      have : -m.1 = s.2.1 := by omega
      rw [this, mnC_all (by omega)]
      omega
theorem mmS_ok {l : List Mv} (h : MvOk l) : ∀ j, j ≤ l.length → MmOk (mmS (l.take j)) (l.take j)
  | 0, _ => by simpa [mmS] using (⟨Int.le_refl _, Int.le_refl _, rfl, rfl, (fun x hx => by cases hx), (fun _ => rfl), Nat.le_refl _⟩ : MmOk ([], (0, 0)) [])
  | j + 1, hj => by
    rw [mmS_at (by omega), take_snocP l j (by omega)]
    refine mmT_ok (mmS_ok h j (by omega)) (h.mv _ (List.getElem_mem _)) ?_
    have := h.st (j + 1) hj
    rw [take_snocP l j (by omega), cnt_app, cnt, cnt] at this
    omega
end Go.Proofs.Ytdgiljndoeldcaa
