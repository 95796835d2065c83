/-
  Items by days: the order of their places, sorted as they stand; what paying leaves, item by item. No condition but those that each theorem names.
-/
import Derived.Test.YtdgiljndoeldcaaGAge
import Derived.Test.YtdgiljndoeldcaaMgTMathB
namespace Go.Proofs.Ytdgiljndoeldcaa
set_option linter.unusedVariables false

/-- The item that stands at a place. -/
def itN (l : List Mv) (i : Nat) : Mv := l.getD i (0, 0)
def itC (l : List Mv) (x : Int) : Mv := itN l x.toNat
theorem itN_get (l : List Mv) (i : Nat) (h : i < l.length) : itN l i = l[i] := by
  unfold itN; rw [List.getD_eq_getElem?_getD, List.getElem?_eq_getElem h]; rfl
theorem itC_nat (l : List Mv) (i : Nat) : itC l (i : Int) = itN l i := by unfold itC; rw [Int.toNat_natCast]
theorem itN_all (l : List Mv) : (List.range l.length).map (itN l) = l := by
  apply List.ext_getElem
  · simp
  · intro i h1 h2
    rw [List.getElem_map, List.getElem_range, itN_get l i h2]
/-- The places, by days. -/
def insN (l : List Mv) (x : Nat) : List Nat → List Nat
  | [] => [x]
  | y :: r => if (itN l x).1 < (itN l y).1 then x :: y :: r else y :: insN l x r
def srtN (l : List Mv) : List Nat := (List.range l.length).foldl (fun s i => insN l i s) []
/-- The first of them. -/
def srtK (l : List Mv) (k : Nat) : List Nat := (List.range k).foldl (fun s i => insN l i s) []
theorem srtK_succ (l : List Mv) (k : Nat) : srtK l (k + 1) = insN l k (srtK l k) := by
  unfold srtK; rw [List.range_succ, List.foldl_append]; rfl
theorem insN_perm (l : List Mv) (x : Nat) : ∀ s : List Nat, (insN l x s).Perm (x :: s)
  | [] => .refl _
  | y :: r => by
    unfold insN
    split
    · exact .refl _
    · exact ((insN_perm l x r).cons y).trans (.swap _ _ _)
theorem insN_map (l : List Mv) (x : Nat) : ∀ s : List Nat, (insN l x s).map (itN l) = insD (itN l x) (s.map (itN l))
  | [] => rfl
  | y :: r => by
    unfold insN
    rw [List.map_cons]
    unfold insD
    split
    · rfl
    · rw [List.map_cons, insN_map l x r]
/-- The order of places: by days, then as they stand. -/
def lN (l : List Mv) (x y : Nat) : Prop := (itN l x).1 < (itN l y).1 ∨ (itN l x).1 = (itN l y).1 ∧ x < y
theorem lN_trans {l : List Mv} {x y z : Nat} (h : lN l x y) (k : lN l y z) : lN l x z := by unfold lN at *; omega
theorem insN_srt (l : List Mv) (x : Nat) : ∀ {s : List Nat}, s.Pairwise (lN l) → (∀ y ∈ s, y < x) → (insN l x s).Pairwise (lN l)
  | [], _, _ => List.pairwise_singleton _ _
  | y :: r, h, hx => by
    have h' := List.pairwise_cons.1 h
    unfold insN
    split
    · rename_i c
      exact List.pairwise_cons.2 ⟨fun z hz => by
        rcases List.mem_cons.1 hz with rfl | hz
        · exact .inl c
        · exact lN_trans (.inl c) (h'.1 z hz), h⟩
    · rename_i c
      exact List.pairwise_cons.2 ⟨fun z hz => by
        rcases List.mem_cons.1 ((insN_perm l x r).subset hz) with rfl | hz
        · have := hx y (List.mem_cons_self ..)
          unfold lN; omega
        · exact h'.1 z hz, insN_srt l x h'.2 (fun z hz => hx z (List.mem_cons_of_mem _ hz))⟩
theorem srtK_all (l : List Mv) : ∀ k, (srtK l k).Perm (List.range k) ∧ (srtK l k).Pairwise (lN l)
  | 0 => ⟨.refl _, List.Pairwise.nil⟩
  | k + 1 => by
    obtain ⟨a, b⟩ := srtK_all l k
    rw [srtK_succ]
    refine ⟨?_, insN_srt l k b (fun y hy => List.mem_range.1 (a.subset hy))⟩
    rw [List.range_succ]
    exact ((insN_perm l k _).trans (a.cons k)).trans (List.perm_append_comm (l₁ := [k]) (l₂ := List.range k))
theorem srtN_perm (l : List Mv) : (srtN l).Perm (List.range l.length) := (srtK_all l l.length).1
theorem srtN_srt (l : List Mv) : (srtN l).Pairwise (lN l) := (srtK_all l l.length).2
theorem srtN_len (l : List Mv) : (srtN l).length = l.length := by rw [(srtN_perm l).length_eq, List.length_range]
theorem srtN_lt (l : List Mv) {i : Nat} (h : i ∈ srtN l) : i < l.length := List.mem_range.1 ((srtN_perm l).subset h)
theorem srtN_nodup (l : List Mv) : (srtN l).Nodup := (srtN_perm l).symm.nodup List.nodup_range
theorem srtK_len (l : List Mv) (k : Nat) : (srtK l k).length = k := by rw [(srtK_all l k).1.length_eq, List.length_range]
theorem foldl_map_ins (l : List Mv) : ∀ (r s : List Nat), (r.foldl (fun s i => insN l i s) s).map (itN l) = (r.map (itN l)).foldl (fun s x => insD x s) (s.map (itN l))
  | [], s => rfl
  | x :: r, s => by rw [List.foldl_cons, foldl_map_ins l r, List.map_cons, List.foldl_cons, insN_map]
theorem srtN_map (l : List Mv) : (srtN l).map (itN l) = srtD l := by
  unfold srtN srtD
  rw [foldl_map_ins, itN_all]
  rfl
/-- What a stable sort leaves is this order. -/
theorem ordered_eq (l : List Mv) (d : Nat → Int) (hp : SegPerm 0 l.length (fun q => (q : Int)) d) (hs : Sorted (fun x => -(itC l x).1) d 0 l.length) : (List.range l.length).map d = (srtN l).map (fun (i : Nat) => (i : Int)) := by
  have key : ∀ q, q < l.length → ∃ r : Nat, r < l.length ∧ d q = r := fun q hq => by
    obtain ⟨r, _, r1, hr⟩ := hp.src q (Nat.zero_le _) hq
    exact ⟨r, r1, hr⟩
  have e1 : (List.range l.length).map d = ((List.range l.length).map (fun q => (d q).toNat)).map (fun (i : Nat) => (i : Int)) := by
    rw [List.map_map]
    apply List.map_congr_left
    intro q hq
    obtain ⟨r, r1, hr⟩ := key q (List.mem_range.1 hq)
    simp [hr]
  rw [e1]
  congr 1
  have pw : ((List.range l.length).map (fun q => (d q).toNat)).Pairwise (lN l) := by
    rw [List.pairwise_map]
    refine (List.pairwise_lt_range (n := l.length)).imp_of_mem ?_
    intro a b ha hb ab
    obtain ⟨r, r1, hr⟩ := key a (List.mem_range.1 ha)
    obtain ⟨t, t1, ht⟩ := key b (List.mem_range.1 hb)
    have h := hs a b (Nat.zero_le _) ab (List.mem_range.1 hb)
    rw [hr, ht] at h ⊢
    unfold L at h
    simp only [itC_nat] at h
    simp only [Int.toNat_natCast]
    unfold lN; omega
  have irr : ∀ x, ¬ lN l x x := fun x h => by unfold lN at h; omega
  have nd : ∀ s : List Nat, s.Pairwise (lN l) → s.Nodup := fun s h => h.imp (fun {a b} h e => by subst e; exact irr _ h)
  refine List.Perm.eq_of_pairwise (le := lN l) (fun a b _ _ h k => absurd (lN_trans h k) (irr a)) pw (srtN_srt l) ?_
  rw [List.perm_ext_iff_of_nodup (nd _ pw) (srtN_nodup l)]
  intro x
  rw [(srtN_perm l).mem_iff, List.mem_range, List.mem_map]
  constructor
  · rintro ⟨q, hq, rfl⟩
    obtain ⟨r, r1, hr⟩ := key q (List.mem_range.1 hq)
    rw [hr, Int.toNat_natCast]; exact r1
  · intro hx
    obtain ⟨r, _, r1, hr⟩ := hp.back x (Nat.zero_le _) hx
    exact ⟨r, List.mem_range.2 r1, by rw [← hr]; simp⟩

/-! What paying leaves, item by item. -/
def payA : List Mv → Int → List Mv
  | [], _ => []
  | x :: r, n => (x.1, x.2 - min n x.2) :: payA r (n - min n x.2)
def payN : List Mv → Int → Int
  | [], n => n
  | x :: r, n => payN r (n - min n x.2)
theorem payA_len : ∀ (l : List Mv) (n : Int), (payA l n).length = l.length
  | [], _ => rfl
  | x :: r, n => by rw [payA, List.length_cons, payA_len r, List.length_cons]
theorem payA_snoc (x : Mv) : ∀ (l : List Mv) (n : Int), payA (l ++ [x]) n = payA l n ++ [(x.1, x.2 - min (payN l n) x.2)] ∧ payN (l ++ [x]) n = payN l n - min (payN l n) x.2
  | [], n => ⟨rfl, rfl⟩
  | y :: r, n => by
    obtain ⟨a, b⟩ := payA_snoc x r (n - min n y.2)
    exact ⟨by rw [List.cons_append, payA, a]; rfl, by rw [List.cons_append, payN, b]; rfl⟩
theorem payN_bd : ∀ {l : List Mv} {n : Int}, (∀ x ∈ l, 1 ≤ x.2) → 0 ≤ n → 0 ≤ payN l n ∧ payN l n ≤ n
  | [], n, _, h => ⟨h, Int.le_refl _⟩
  | x :: r, n, h, h0 => by
    have hx := h x (List.mem_cons_self ..)
    have := payN_bd (l := r) (n := n - min n x.2) (fun y hy => h y (List.mem_cons_of_mem _ hy)) (by omega)
    rw [payN]; omega
theorem pay_none : ∀ {l : List Mv}, (∀ x ∈ l, 1 ≤ x.2) → payA l 0 = l ∧ payN l 0 = 0
  | [], _ => ⟨rfl, rfl⟩
  | x :: r, h => by
    have hx := h x (List.mem_cons_self ..)
    obtain ⟨a, b⟩ := pay_none (l := r) (fun y hy => h y (List.mem_cons_of_mem _ hy))
    have e : min 0 x.2 = 0 := by omega
    rw [payA, payN, e, Int.sub_zero, Int.sub_zero, a, b]
    exact ⟨rfl, rfl⟩
theorem pay_done : ∀ {l : List Mv} {n : Int}, (∀ x ∈ l, 1 ≤ x.2) → 0 ≤ n → (payA l n).filter (fun x => !(x.2 == 0)) = payL l n ∧ payN l n = payR l n
  | [], n, _, _ => ⟨rfl, rfl⟩
  | x :: r, n, h, h0 => by
    have hx := h x (List.mem_cons_self ..)
    have hr : ∀ y ∈ r, 1 ≤ y.2 := fun y hy => h y (List.mem_cons_of_mem _ hy)
    rw [payA, payN]
    by_cases c : x.2 ≤ n
    · have e : min n x.2 = x.2 := by omega
      obtain ⟨a, b⟩ := pay_done (n := n - x.2) hr (by omega)
      rw [e, (pay_le c).1, (pay_le c).2, ← a, ← b]
      refine ⟨?_, rfl⟩
      rw [List.filter_cons_of_neg (by simp)]
    · have e : min n x.2 = n := by omega
      obtain ⟨a, b⟩ := pay_none hr
      rw [e, (pay_gt c).1, (pay_gt c).2, Int.sub_self, a, b]
      refine ⟨?_, rfl⟩
      have fr : r.filter (fun x => !(x.2 == 0)) = r := List.filter_eq_self.2 (fun y hy => by have := hr y hy; simp; omega)
      have nz : (x.2 - n == 0) = false := by rw [beq_eq_false_iff_ne]; omega
      rw [List.filter_cons_of_pos (by simp [nz]), fr]
end Go.Proofs.Ytdgiljndoeldcaa
