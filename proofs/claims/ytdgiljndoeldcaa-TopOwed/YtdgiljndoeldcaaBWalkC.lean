/-
  What package entry's Turned returns. No condition but those that each theorem names.
-/
import Derived.Test.YtdgiljndoeldcaaBWalkB
namespace Go.Proofs.Ytdgiljndoeldcaa
open Go.RowKit
set_option linter.unusedVariables false

/-- Each amount the other way. -/
def negP (x : Pr) : Pr := (x.1, -x.2)
def negL (l : List Pr) : List Pr := l.map negP
theorem negL_len (l : List Pr) : (negL l).length = l.length := by unfold negL; simp
/-- A row of pairs of the call's own. -/
structure POwn (w : World) (p : Nat) (l : List Pr) : Prop where
  row : PRow w p 0 l
  free : ∀ o, o < l.length * 2 → w.frozen? ⟨p, o, none⟩ = false
theorem POwn.later {w w' : World} {p : Nat} {l : List Pr} (h : POwn w p l) (k : Kept w w') : POwn w' p l :=
  ⟨h.row.later k, fun o ho => (k.rd.2 _ _ h.row.lt).trans (h.free o ho)⟩
/-- One place written. -/
theorem POwn.set {w : World} {p : Nat} {l : List Pr} (h : POwn w p l) (i : Nat) (x : Pr) (hi : i < l.length) : POwn ((w.setCell ⟨p, i * 2, none⟩ (.string x.1)).setCell ⟨p, i * 2 + 1, none⟩ (.int .i64 x.2)) p (l.set i x) := by
  have hc0 := h.row.c0 i hi
  have hc1 := h.row.c1 i hi
  rw [Nat.zero_add] at hc0 hc1
  refine ⟨⟨by simpa using h.row.lt, fun j hj => ?_, fun j hj => ?_⟩, fun o ho => ?_⟩
  · rw [List.length_set] at hj
    have hcj := h.row.c0 j hj
    rw [Nat.zero_add] at hcj ⊢
    by_cases e : i = j
    · subst e
      rw [List.getElem_set_self]
      go_simp
    · rw [List.getElem_set_ne e]
      have e1 : j * 2 ≠ i * 2 := by omega
      have e2 : j * 2 ≠ i * 2 + 1 := by omega
      go_simp
  · rw [List.length_set] at hj
    have hcj := h.row.c1 j hj
    rw [Nat.zero_add] at hcj ⊢
    by_cases e : i = j
    · subst e
      rw [List.getElem_set_self]
      go_simp
    · rw [List.getElem_set_ne e]
      have e1 : j * 2 + 1 ≠ i * 2 := by omega
      have e2 : j * 2 + 1 ≠ i * 2 + 1 := by omega
      go_simp
  · rw [List.length_set] at ho
    have hf := h.free o ho
    go_simp
theorem POwn.other {w : World} {p r i : Nat} {l : List Pr} {v : Value} (h : POwn w p l) (hr : r ≠ p) : POwn (w.setCell ⟨r, i, none⟩ v) p l := by
  have hr' : p ≠ r := fun e => hr e.symm
  refine ⟨⟨by simpa using h.row.lt, fun j hj => ?_, fun j hj => ?_⟩, fun o ho => ?_⟩
  · have hc := h.row.c0 j hj
    rw [Nat.zero_add] at hc ⊢
    go_simp
  · have hc := h.row.c1 j hj
    rw [Nat.zero_add] at hc ⊢
    go_simp
  · have hf := h.free o ho
    go_simp
/-- So many empty pairs. -/
def ps (n : Nat) : Array Value := madeCells #[.string ⟨#[]⟩, .int .i64 0] (n * 2)
theorem ps_cell0 (n j : Nat) (h : j < n) : (ps n)[j * 2]? = some (.string ⟨#[]⟩) := by
  unfold ps madeCells
  have h1 : j * 2 < n * 2 := by omega
  have h2 : j * 2 % 2 = 0 := by omega
  simp [h1, h2]
theorem ps_cell1 (n j : Nat) (h : j < n) : (ps n)[j * 2 + 1]? = some (.int .i64 0) := by
  unfold ps madeCells
  have h1 : j * 2 + 1 < n * 2 := by omega
  have h2 : (j * 2 + 1) % 2 = 1 := by omega
  simp [h1, h2]
def noP : Pr := (⟨#[]⟩, 0)
theorem POwn.made {w : World} {n p : Nat} {t : TypeId} (hp : w.heap.size = p) : POwn (w.alloc (.cells (ps n) t)) p (List.replicate n noP) := by
  subst hp
  refine ⟨⟨by simp, fun j hj => ?_, fun j hj => ?_⟩, fun o ho => ?_⟩
  · have hj' : j < n := by simpa using hj
    simp [ps_cell0 n j hj', noP]
  · have hj' : j < n := by simpa using hj
    simp [ps_cell1 n j hj', noP]
  · simp
theorem make_lines (n : Nat) (hn : n ≤ 1000000) (w : World) :
    (Instr.makeSlice 62 (.int .i64 (n : Int)) (.int .i64 (n : Int))).run Try.prog w = .ok (.slice (some ⟨w.heap.size, 0, none⟩) n n) (w.alloc (.cells (ps n) 97)) := by
  obtain ⟨i0, hi, hz0, hz1, hz2⟩ := info_parts pairLine
  have h := run_make (P := Try.prog) w 62 97 i0 (.agg #[.string ⟨#[]⟩, .int .i64 0]) Try.underlying62 hi hz0 .i64 .i64 n n (by omega) (Int.le_refl _) (by rw [hz2]; omega) (by omega)
  rw [hz1] at h
  simpa [ps, Value.cells] using h
/-- A box that may be written. -/
structure WBx (w : World) (p : Nat) (k : ByteArray) (d : Int) (v : Value) : Prop where
  box : EBx w p k d v
  f0 : w.frozen? ⟨p, 0, none⟩ = false
  f1 : w.frozen? ⟨p, 1, none⟩ = false
  f2 : w.frozen? ⟨p, 2, none⟩ = false
theorem WBx.later {w w' : World} {p : Nat} {k : ByteArray} {d : Int} {v : Value} (h : WBx w p k d v) (q : Kept w w') : WBx w' p k d v :=
  ⟨h.box.later q, (q.rd.2 _ _ h.box.lt).trans h.f0, (q.rd.2 _ _ h.box.lt).trans h.f1, (q.rd.2 _ _ h.box.lt).trans h.f2⟩
theorem WBx.new (w : World) (k : ByteArray) (d : Int) (v : Value) (t : TypeId) (p : Nat) (hp : w.heap.size = p) : WBx (w.alloc (.cells #[.string k, .int .i64 d, v] t)) p k d v := by
  subst hp; exact ⟨EBx.new w k d v t, by simp, by simp, by simp⟩
/-- No entry, and an error. -/
def EnNo (w : World) (er : Int) (e : Ending) (w' : World) : Prop := e = .returned (.tuple #[.agg #[.string ⟨#[]⟩, .int .i64 0, .slice none 0 0], .int .i64 er]) ∧ Kept w w'
/-- An entry of the call's own, and no error. -/
def EnYes (w : World) (k : ByteArray) (d : Int) (l : List Pr) (e : Ending) (w' : World) : Prop :=
  ∃ p, w.heap.size ≤ p ∧ e = .returned (.tuple #[.agg #[.string k, .int .i64 d, .slice (some ⟨p, 0, none⟩) l.length l.length], .int .i64 0]) ∧ POwn w' p l ∧ Kept w w'
/-- The first k of one list, the rest empty. -/
def mixP (l : List Pr) (n k : Nat) : List Pr := l.take k ++ List.replicate (n - k) noP
theorem mixP_len {l : List Pr} {k : Nat} (h : k ≤ l.length) : (mixP l l.length k).length = l.length := by unfold mixP; simp; omega
theorem mixP_set {l : List Pr} {k : Nat} (h : k < l.length) : (mixP l l.length k).set k l[k] = mixP l l.length (k + 1) := by
  apply List.ext_getElem?
  intro i
  unfold mixP
  rw [List.getElem?_set]
  simp only [List.getElem?_append, List.length_take, List.getElem?_take, List.getElem?_replicate, List.length_append, List.length_replicate, Nat.min_eq_left (Nat.le_of_lt h), Nat.min_eq_left (show k + 1 ≤ l.length from h)]
  by_cases e : k = i
  · subst e
    simp [h]; omega
  · by_cases c : i < k
    · simp [e, c, show i < k + 1 by omega]
    · simp [e, c, show ¬ i < k + 1 by omega]
      by_cases d : i < l.length
      · simp [show i - k < l.length - k by omega, show i - (k + 1) < l.length - (k + 1) by omega]
      · simp [show ¬ i - k < l.length - k by omega, show ¬ i - (k + 1) < l.length - (k + 1) by omega]
theorem negL_get {l : List Pr} {j : Nat} (h : j < l.length) : (negL l)[j]'(by rw [negL_len]; exact h) = negP l[j] := by simp [negL]
theorem enE_ok {k : ByteArray} {d : Int} {l : List Pr} (h : enE k d l = 0) : hdE k d = 0 ∧ 2 ≤ l.length ∧ l.length ≤ 12 ∧ lnsE [] l = 0 ∧ sumL l = 0 := by
  unfold enE at h
  split at h
  · rename_i a
    split at h
    · cases h
    · rename_i b
      unfold tlE at h
      split at h
      · rename_i c
        split at h
        · cases h
        · rename_i e
          exact ⟨a, by omega, by omega, c, by omega⟩
      · rename_i c; exact absurd h c
  · rename_i a; exact absurd h a
theorem lnsE_all : ∀ (l done : List Pr), lnsE done l = 0 → ∀ x ∈ l, codeB x.1 = true ∧ -1000000000000 ≤ x.2 ∧ x.2 ≤ 1000000000000 ∧ x.2 ≠ 0
  | [], _, _, x, hx => by simp at hx
  | y :: r, done, h, x, hx => by
    rw [lnsE] at h
    split at h
    · rename_i c
      rcases List.mem_cons.1 hx with rfl | hx
      · obtain ⟨a, b, c, d, _⟩ := lnE_ok c; exact ⟨a, b, c, d⟩
      · exact lnsE_all r _ h x hx
    · rename_i c; exact absurd h c
/-! Entries compared. -/
set_option maxHeartbeats 2000000 in
theorem lequal_yes (l : List Pr) (a b : Option Addr) (n cap cap' : Nat) (w : World) (hn : l.length ≤ 1000) (e : l.length = n) (hR : PArg w a l) (hQ : PArg w b l) :
    Calls Try.prog 82 #[.slice a n cap, .slice b n cap'] w fun e w' => e = .returned (.bool true) ∧ Drew w w' := by
  have HR := Lib.hid hR
  have HQ := Lib.hid hQ
  have HE := Lib.hid e
  have hn' : n ≤ 1000 := by omega
  clear hR hQ e hn
  go_enter Try.func82, Try.ntmps82
  go_wp2
  go_loopw [13] (fun i wr => ∃ k m : Nat, k ≤ n ∧ i = .int .i64 k ∧ wr = w.drewN m) (fun i _ => (n - intOf i).toNat)
  case atStart => exact ⟨0, 0, by omega, rfl, rfl⟩
  case round =>
    obtain ⟨k, m, hk, rfl, rfl⟩ := hrel
    by_cases hlt : k < n
    · have hl : k < l.length := by rw [HE.out]; exact hlt
      obtain ⟨p, off, rfl, hp⟩ := HR.out.at hl
      obtain ⟨q, off', rfl, hq⟩ := HQ.out.at hl
      have c0 := hp.c0 k hl
      have c1 := hp.c1 k hl
      have d0 := hq.c0 k hl
      have d1 := hq.c1 k hl
      clear hp hq
      generalize l[k] = x at *
      clear hl
      have i0 : (0 : Int) ≤ (k : Int) := by omega
      have i1 : (k : Int) < (n : Int) := by omega
      go_wp2_with fail
      go_quiet (fail)
      go_wp2
      go_roundw
      case rel => exact ⟨k + 1, _, by omega, by go_num, rfl⟩
      case measure => simp [intOf]; omega
    · obtain rfl : k = n := by omega
      clear hlt
      go_wp2
      go_ret
      exact ⟨rfl, m, rfl⟩
/-- The sale's lines. -/
def saleL (n : Int) : List Pr := [(⟨#[49, 48]⟩, n), (⟨#[52, 48]⟩, -n)]
theorem sale_row (w : World) (n : Int) (p : Nat) (t : TypeId) (hp : w.heap.size = p) : PRow (w.alloc (.cells #[.string ⟨#[49, 48]⟩, .int .i64 n, .string ⟨#[52, 48]⟩, .int .i64 (-n)] t)) p 0 (saleL n) := by
  subst hp
  refine ⟨by simp, fun j hj => ?_, fun j hj => ?_⟩
  all_goals
    have hj' : j < 2 := hj
    match j, hj' with
    | 0, _ => simp [saleL]
    | 1, _ => simp [saleL]
/-- An entry with a row of its own. -/
def SalePost (w : World) (k : ByteArray) (d : Int) (l : List Pr) (e : Ending) (w' : World) : Prop :=
  ∃ p, w.heap.size ≤ p ∧ e = .returned (enV k d (some ⟨p, 0, none⟩) l.length l.length) ∧ PRow w' p 0 l ∧ Kept w w'
end Go.Proofs.Ytdgiljndoeldcaa
