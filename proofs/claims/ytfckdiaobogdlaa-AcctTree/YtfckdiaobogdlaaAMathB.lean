/-
  The codes under a code, parted by the next digit. No condition but those that each theorem names.
-/
import Derived.Test.YtfckdiaobogdlaaAWalkC
namespace Go.Proofs.Ytfckdiaobogdlaa
open Go.RowKit
set_option linter.unusedVariables false

theorem preB_iff (c s : ByteArray) : preB c s = true ↔ c.toList <+: s.toList := by
  unfold preB
  rw [Bool.and_eq_true, decide_eq_true_eq, beq_iff_eq, Lib.extract_toList, Lib.toList_data, Lib.toList_data, Nat.sub_zero, List.drop_zero, Lib.size_eq, Lib.size_eq]
  constructor
  · rintro ⟨_, h⟩
    rw [List.prefix_iff_eq_take]
    exact h.symm
  · intro h
    exact ⟨h.length_le, (List.prefix_iff_eq_take.1 h).symm⟩
theorem u8nat {n : Nat} (h : n < 256) : (UInt8.ofNat n).toNat = n := by
  show n % 256 = n
  exact Nat.mod_eq_of_lt h
/-- The ten digits. -/
def tens : ByteArray := ⟨#[48, 49, 50, 51, 52, 53, 54, 55, 56, 57]⟩
def dgt (k : Nat) : ByteArray := tens.extract k (k + 1)
theorem dgt_list (k : Nat) (h : k < 10) : (dgt k).toList = [UInt8.ofNat (48 + k)] := by
  unfold dgt tens
  rw [Lib.extract_toList]
  match k, h with
  | 0, _ => rfl
  | 1, _ => rfl
  | 2, _ => rfl
  | 3, _ => rfl
  | 4, _ => rfl
  | 5, _ => rfl
  | 6, _ => rfl
  | 7, _ => rfl
  | 8, _ => rfl
  | 9, _ => rfl
theorem cat_list (c d : ByteArray) : (c ++ d).toList = c.toList ++ d.toList := by
  rw [Lib.toList_data, Lib.toList_data, Lib.toList_data, ByteArray.data_append]; simp
/-- How many codes are under a code and one of the first k digits. -/
def smT (c : ByteArray) (l : List Pr) : Nat → Nat
  | 0 => 0
  | k + 1 => smT c l k + (undL (c ++ dgt k) l).length
/-- .. of one text. -/
def oneT (c s : ByteArray) : Nat → Nat
  | 0 => 0
  | k + 1 => oneT c s k + (if preB (c ++ dgt k) s = true then 1 else 0)
theorem und_cons (c : ByteArray) (x : Pr) (r : List Pr) : (undL c (x :: r)).length = (undL c r).length + (if preB c x.1 = true then 1 else 0) := by
  unfold undL
  rw [List.filter_cons]
  split <;> simp_all
theorem smT_nil (c : ByteArray) : ∀ k, smT c [] k = 0
  | 0 => rfl
  | k + 1 => by rw [smT, smT_nil c k]; rfl
theorem smT_cons (c : ByteArray) (x : Pr) (r : List Pr) : ∀ k, smT c (x :: r) k = smT c r k + oneT c x.1 k
  | 0 => rfl
  | k + 1 => by rw [smT, smT, oneT, smT_cons c x r k, und_cons]; omega
theorem pre_next {c s : ByteArray} {k : Nat} (hk : k < 10) (h : c.toList <+: s.toList) : preB (c ++ dgt k) s = true ↔ ∃ t, s.toList = c.toList ++ UInt8.ofNat (48 + k) :: t := by
  rw [preB_iff, cat_list, dgt_list k hk]
  constructor
  · rintro ⟨t, e⟩
    exact ⟨t, by rw [← e, List.append_assoc]; rfl⟩
  · rintro ⟨t, e⟩
    exact ⟨t, by rw [e, List.append_assoc]; rfl⟩
theorem pre_up {c s : ByteArray} {k : Nat} (hk : k < 10) (h : preB (c ++ dgt k) s = true) : preB c s = true := by
  rw [preB_iff, cat_list] at h
  rw [preB_iff]
  exact (List.prefix_append _ _).trans h
theorem oneT_none {c s : ByteArray} (h : ∀ k, k < 10 → preB (c ++ dgt k) s = false) : ∀ n, n ≤ 10 → oneT c s n = 0
  | 0, _ => rfl
  | n + 1, hn => by rw [oneT, oneT_none h n (by omega), h n (by omega)]; rfl
theorem oneT_at {c s : ByteArray} {j : Nat} (h : ∀ k, k < 10 → (preB (c ++ dgt k) s = true ↔ k = j)) : ∀ n, n ≤ 10 → oneT c s n = if j < n then 1 else 0
  | 0, _ => rfl
  | n + 1, hn => by
    rw [oneT, oneT_at h n (by omega)]
    by_cases e : n = j
    · rw [if_pos ((h n (by omega)).2 e), if_neg (by omega), if_pos (by omega)]
    · rw [if_neg (fun q => e ((h n (by omega)).1 q))]
      by_cases d : j < n
      · rw [if_pos d, if_pos (by omega)]
      · rw [if_neg d, if_neg (by omega)]
theorem oneT_ten {c s : ByteArray} (hd : digB s = true) : oneT c s 10 + (if c = s then 1 else 0) = if preB c s = true then 1 else 0 := by
  cases hp : preB c s
  · have h1 : ∀ k, k < 10 → preB (c ++ dgt k) s = false := by
      intro k hk
      cases e : preB (c ++ dgt k) s
      · rfl
      · rw [pre_up hk e] at hp; cases hp
    have h2 : c ≠ s := by
      rintro rfl
      have : preB c c = true := (preB_iff c c).2 (List.prefix_refl _)
      rw [this] at hp; cases hp
    rw [oneT_none h1 10 (Nat.le_refl _), if_neg h2]; rfl
  · obtain ⟨t, ht⟩ := (preB_iff c s).1 hp
    rw [if_pos rfl]
    cases t with
    | nil =>
      have e : c = s := ba_ext (by rw [← ht, List.append_nil])
      have h1 : ∀ k, k < 10 → preB (c ++ dgt k) s = false := by
        intro k hk
        cases q : preB (c ++ dgt k) s
        · rfl
        · obtain ⟨u, hu⟩ := (pre_next hk ((preB_iff c s).1 hp)).1 q
          rw [← ht] at hu
          have := congrArg List.length hu
          simp at this
      rw [oneT_none h1 10 (Nat.le_refl _), if_pos e]
    | cons b u =>
      have e : c ≠ s := by
        rintro rfl
        have := congrArg List.length ht
        simp at this
      have hb : dgB b = true := by
        unfold digB at hd
        rw [← Lib.toList_data, ← ht, List.all_eq_true] at hd
        exact hd b (by simp)
      have hb2 : 48 ≤ b.toNat ∧ b.toNat ≤ 57 := by unfold dgB at hb; simpa using hb
      have h1 : ∀ k, k < 10 → (preB (c ++ dgt k) s = true ↔ k = b.toNat - 48) := by
        intro k hk
        rw [pre_next hk ((preB_iff c s).1 hp)]
        constructor
        · rintro ⟨v, hv⟩
          rw [← ht] at hv
          have h3 := List.append_cancel_left hv
          have h4 : b = UInt8.ofNat (48 + k) := by injection h3
          rw [h4, u8nat (by omega)]; omega
        · intro hk2
          refine ⟨u, ?_⟩
          rw [← ht]
          congr 2
          apply UInt8.toNat_inj.1
          rw [u8nat (by omega)]; omega
      rw [oneT_at h1 10 (Nat.le_refl _), if_pos (by omega), if_neg e]
/-- How often a code is there. -/
def cntT (c : ByteArray) : List Pr → Nat
  | [] => 0
  | x :: r => cntT c r + (if c = x.1 then 1 else 0)
theorem tree_sum (c : ByteArray) : ∀ l : List Pr, (∀ x ∈ l, digB x.1 = true) → smT c l 10 + cntT c l = (undL c l).length
  | [], _ => by rw [smT_nil]; rfl
  | x :: r, h => by
    have ih := tree_sum c r (fun y hy => h y (List.mem_cons_of_mem _ hy))
    have o := oneT_ten (c := c) (h x List.mem_cons_self)
    rw [smT_cons, cntT, und_cons]
    omega
theorem cnt_none {c : ByteArray} : ∀ l : List Pr, (∀ x ∈ l, c ≠ x.1) → cntT c l = 0
  | [], _ => rfl
  | x :: r, h => by rw [cntT, cnt_none r (fun y hy => h y (List.mem_cons_of_mem _ hy)), if_neg (h x List.mem_cons_self)]
theorem cnt_one {c : ByteArray} : ∀ l : List Pr, Inc (l.map Prod.fst) → cntT c l = if memB c (undL c l) = true then 1 else 0
  | [], _ => rfl
  | x :: r, h => by
    have ih := cnt_one (c := c) r h.2
    have pc : preB c c = true := (preB_iff c c).2 (List.prefix_refl _)
    rw [cntT]
    by_cases e : c = x.1
    · have h0 : cntT c r = 0 := cnt_none r (fun y hy q => by
        have := h.1 y.1 (List.mem_map_of_mem hy)
        rw [← e, ← q] at this
        unfold ltB at this
        rw [bl_irrefl] at this; cases this)
      have hm : memB c (undL c (x :: r)) = true := memB_iff.2 (mem_und.2 ⟨pc, x, List.mem_cons_self, e.symm⟩)
      rw [h0, if_pos e, hm]; rfl
    · have hm : memB c (undL c (x :: r)) = memB c (undL c r) := by
        rw [Bool.eq_iff_iff, memB_iff, memB_iff, mem_und, mem_und]
        constructor
        · rintro ⟨a, y, hy, q⟩
          rcases List.mem_cons.1 hy with rfl | hy
          · exact absurd q.symm e
          · exact ⟨a, y, hy, q⟩
        · rintro ⟨a, y, hy, q⟩
          exact ⟨a, y, List.mem_cons_of_mem _ hy, q⟩
      rw [if_neg e, hm, ih, Nat.add_zero]
theorem code_dig {s : ByteArray} (h : codeB s = true) : digB s = true := by unfold codeB at h; rw [Bool.and_eq_true] at h; exact h.2
theorem tree_all {c : ByteArray} {l : List Pr} (h : acE l = 0) : smT c l 10 + (if memB c (undL c l) = true then 1 else 0) = (undL c l).length := by
  obtain ⟨i, a⟩ := acE_inc h
  rw [← cnt_one l i]
  exact tree_sum c l (fun x hx => code_dig (a x hx).1)
theorem und_sub {c : ByteArray} {l : List Pr} {k : Nat} (hk : k < 10) : ∀ s ∈ undL (c ++ dgt k) l, memB s (undL c l) = true := by
  intro s hs
  obtain ⟨a, b⟩ := mem_und.1 hs
  exact memB_iff.2 (mem_und.2 ⟨pre_up hk a, b⟩)
theorem und_le (c : ByteArray) (l : List Pr) : (undL c l).length ≤ l.length := by
  unfold undL; rw [List.length_map]; exact List.length_filter_le _ _
theorem smT_le (c : ByteArray) (l : List Pr) : ∀ k, smT c l k ≤ k * l.length
  | 0 => by simp [smT]
  | k + 1 => by rw [smT]; have := smT_le c l k; have := und_le (c ++ dgt k) l; rw [Nat.add_mul]; omega
end Go.Proofs.Ytfckdiaobogdlaa
