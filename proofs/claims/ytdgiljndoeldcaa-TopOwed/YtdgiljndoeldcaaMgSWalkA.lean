import Derived.Test.YtdgiljndoeldcaaSBase
import Derived.Test.YtdgiljndoeldcaaSMath
import Derived.Test.YtdgiljndoeldcaaGPay
import Derived.Test.YtdgiljndoeldcaaGRow
/-
  What the small functions of package split and of the laws return: validAmount, badWeight, size, signed, Even, sum, Within. No condition but those that each theorem names.
-/
namespace Go.Proofs.Ytdgiljndoeldcaa
open Go.RowKit

def amB (a : Int) : Bool := decide (-1000000000000 ≤ a ∧ a ≤ 1000000000000)
theorem am_iff (a : Int) : amB a = true ↔ (-1000000000000 ≤ a ∧ a ≤ 1000000000000) := by unfold amB; exact decide_eq_true_iff
/-- signed: the parts with the sign of the amount. -/
def Signed (B : World) (p n : Nat) (amount : Int) (g : Nat → Int) (e : Ending) (w' : World) : Prop :=
  e = .returned (.slice (some ⟨p, 0, none⟩) n n) ∧ Own w' p (tab n fun i => sg amount (g i)) ∧ Kept B w'
/-- Even: the parts in a new row. -/
def EvenPost (w : World) (amount : Int) (n : Nat) (e : Ending) (w' : World) : Prop :=
  ∃ p : Nat, w.heap.size ≤ p ∧ e = .returned (.tuple #[.slice (some ⟨p, 0, none⟩) n n, .int .i64 0]) ∧ Own w' p (tab n (evV amount n)) ∧ Kept w w'
theorem mulk_bd (a : Int) (k : Nat) (h0 : 0 ≤ a) (h1 : a ≤ 1000000000000) (hk : k ≤ 40) : 0 ≤ a * (k : Int) ∧ a * (k : Int) ≤ 40000000000000 := by
  refine ⟨Int.mul_nonneg h0 (by omega), ?_⟩
  have : a * (k : Int) ≤ 1000000000000 * 40 := Int.mul_le_mul h1 (by omega) (by omega) (by omega)
  omega
/-! The laws' own functions. -/
/-- Some number from 0 to n - 1. -/
def SomeBelow (n : Int) (w : World) (e : Ending) (w' : World) : Prop := ∃ r : Int, 0 ≤ r ∧ r < n ∧ e = .returned (.int .i64 r) ∧ w = w'
theorem within_val (k n : Int) (w : World) (h0 : 1 ≤ n) (h1 : n ≤ 2000000000000) : SomeBelow n w (.returned (.int .i64 (wrap64 ((IntKind.u64.wrap k).tmod n)))) w := by
  have h2 : 0 ≤ IntKind.u64.wrap k := wrap_u64_nonneg k
  have h3 : (IntKind.u64.wrap k).tmod n = IntKind.u64.wrap k % n := Int.tmod_eq_emod_of_nonneg h2
  have h4 : 0 ≤ IntKind.u64.wrap k % n := Int.emod_nonneg _ (by omega)
  have h5 : IntKind.u64.wrap k % n < n := Int.emod_lt_of_pos _ (by omega)
  rw [h3]
  refine ⟨IntKind.u64.wrap k % n, h4, h5, ?_, rfl⟩
  rw [show wrap64 (IntKind.u64.wrap k % n) = IntKind.u64.wrap k % n from by unfold wrap64; omega]
set_option maxHeartbeats 400000 in
theorem within_any (k n : Int) (w : World) (h0 : 1 ≤ n) (h1 : n ≤ 2000000000000) :
    Calls Try.prog 27 #[.int .i64 k, .int .i64 n] w (SomeBelow n w) := by
  go_enter Try.func27, Try.ntmps27
  go_wp2
  go_ret
  exact within_val k n w h0 h1
set_option maxHeartbeats 1000000 in
theorem sum_any (g : Nat → Int) (p off n cap : Nat) (w : World) (hn : n ≤ 1000) (hg : ∀ j, j < n → -2000000000000 ≤ g j ∧ g j ≤ 2000000000000) (hR : Rd w p off (tab n g)) :
    Calls Try.prog 28 #[.slice (some ⟨p, off, none⟩) n cap] w fun e w' => e = .returned (.int .i64 (sumTo g n)) ∧ w = w' := by
  have HG := Lib.hid hg
  clear hg
  have HR := Lib.hid hR.cell
  have lt := hR.lt
  clear hR
  go_enter Try.func28, Try.ntmps28
  go_wp2
  go_loop [3, 8] (fun s i => ∃ k : Nat, k ≤ n ∧ i = .int .i64 k ∧ s = .int .i64 (sumTo g k)) (fun _ i => (n - intOf i).toNat)
  case atStart => exact ⟨0, by omega, rfl, rfl⟩
  case round =>
    obtain ⟨k, hk, rfl, rfl⟩ := hrel
    by_cases hlt : k < n
    · have hc := HR.out k (by rw [tab_len]; exact hlt)
      rw [tab_get] at hc
      have gb := HG.out k hlt
      have sb := sumTo_bd g 2000000000000 k (fun j hj => HG.out j (by omega))
      have S := Lib.hid (show sumTo g (k + 1) = sumTo g k + g k from rfl)
      go_wp2
      go_round
      case rel => exact ⟨k + 1, by omega, by go_num, by rw [S.out]⟩
      case measure => simp [intOf]; omega
    · obtain rfl : k = n := by omega
      clear hlt
      go_wp2
      go_ret
      exact ⟨rfl, rfl⟩

end Go.Proofs.Ytdgiljndoeldcaa

/-
  The texts of items and of payments, under one name. No condition but those that each theorem names.
-/
namespace Go.Proofs.Ytdgiljndoeldcaa
end Go.Proofs.Ytdgiljndoeldcaa

/-
  What slices.Equal says of two rows that read alike, and slices.Max and slices.Min of a row: one of its numbers. No condition but those that each theorem names.
-/
namespace Go.Proofs.Ytdgiljndoeldcaa
open Go.RowKit

set_option maxHeartbeats 1000000 in
theorem equal_yes (g : Nat → Int) (p off cap q off' cap' n : Nat) (w : World) (hn : n ≤ 1000) (hR : Rd w p off (tab n g)) (hQ : Rd w q off' (tab n g)) :
    Calls Try.prog 22 #[.slice (some ⟨p, off, none⟩) n cap, .slice (some ⟨q, off', none⟩) n cap'] w fun e w' => e = .returned (.bool true) ∧ Drew w w' := by
  have HR := Lib.hid hR.cell
  have HQ := Lib.hid hQ.cell
  clear hR hQ
  go_enter Try.func22, Try.ntmps22
  go_wp2
  go_loopw [13] (fun i wr => ∃ k m : Nat, k ≤ n ∧ i = .int .i64 k ∧ wr = w.drewN m) (fun i _ => (n - intOf i).toNat)
  case atStart => exact ⟨0, 0, by omega, rfl, rfl⟩
  case round =>
    obtain ⟨k, m, hk, rfl, rfl⟩ := hrel
    by_cases hlt : k < n
    · have hc := HR.out k (by rw [tab_len]; exact hlt)
      have hd := HQ.out k (by rw [tab_len]; exact hlt)
      rw [tab_get] at hc hd
      generalize g k = x at *
      have i0 : (0 : Int) ≤ (k : Int) := by omega
      have i1 : (k : Int) < (n : Int) := by omega
      go_wp2_with fail
      go_quiet (fail)
      go_wp2
      go_roundw
      case rel => exact ⟨k + 1, _, by omega, by go_num, rfl⟩
      case measure => simp [intOf]; omega
    · obtain rfl : k = n := by omega
      clear hlt
      go_wp2
      go_ret
      exact ⟨rfl, m, rfl⟩

/-- One of the numbers. -/
def OneOf (g : Nat → Int) (n : Nat) (w : World) (e : Ending) (w' : World) : Prop := ∃ j, j < n ∧ e = .returned (.int .i64 (g j)) ∧ w = w'
end Go.Proofs.Ytdgiljndoeldcaa

/-
  What is used of every walk over texts and rows of pairs (a text and a number): accounts and lines. No condition but those that each theorem names.
-/
namespace Go.Proofs.Ytdgiljndoeldcaa
open Go.RowKit

/-- A digit. -/
def dgB (c : UInt8) : Bool := decide (48 ≤ c.toNat) && decide (c.toNat ≤ 57)
/-- Nothing but digits. -/
def digB (s : ByteArray) : Bool := s.data.toList.all dgB
/-- P28: a code. -/
def codeB (s : ByteArray) : Bool := decide (1 ≤ s.size) && decide (s.size ≤ 8) && digB s
theorem take_snoc (s : ByteArray) (k : Nat) (h : k < s.size) : s.data.toList.take (k + 1) = s.data.toList.take k ++ [s[k]] := by
  rw [List.take_succ_eq_append_getElem (by simpa using h)]; rfl
theorem take_all (s : ByteArray) : s.data.toList.take s.size = s.data.toList := List.take_of_length_le (by simp)
theorem mem_at (s : ByteArray) (k : Nat) (h : k < s.size) : s[k] ∈ s.data.toList := by
  have : s.data.toList[k]'(by simpa using h) ∈ s.data.toList := List.getElem_mem _
  exact this
theorem all_no {s : ByteArray} {p : UInt8 → Bool} {k : Nat} (h : k < s.size) (hp : p s[k] = false) : s.data.toList.all p = false := by
  rw [List.all_eq_false]; exact ⟨_, mem_at s k h, by simp [hp]⟩

/-- A pair: a text and a number. -/
abbrev Pr := ByteArray × Int
/-- A row of pairs that is read. -/
structure PRow (w : World) (p off : Nat) (l : List Pr) : Prop where
  lt : p < w.heap.size
  c0 : ∀ j (h : j < l.length), w.cell? ⟨p, off + j * 2, none⟩ = some (.string (l[j]).1)
  c1 : ∀ j (h : j < l.length), w.cell? ⟨p, off + j * 2 + 1, none⟩ = some (.int .i64 (l[j]).2)
theorem PRow.later {w w' : World} {p off : Nat} {l : List Pr} (h : PRow w p off l) (k : Kept w w') : PRow w' p off l :=
  ⟨Nat.lt_of_lt_of_le h.lt k.le, fun j hj => (k.rd.1 _ _ h.lt).trans (h.c0 j hj), fun j hj => (k.rd.1 _ _ h.lt).trans (h.c1 j hj)⟩
/-- A slice of pairs, nil included. -/
def PArg (w : World) (a : Option Addr) (l : List Pr) : Prop := l = [] ∨ ∃ p off, a = some ⟨p, off, none⟩ ∧ PRow w p off l
theorem PArg.later {w w' : World} {a : Option Addr} {l : List Pr} (h : PArg w a l) (k : Kept w w') : PArg w' a l := by
  rcases h with h | ⟨p, off, e, h⟩
  · exact .inl h
  · exact .inr ⟨p, off, e, h.later k⟩
theorem PArg.at {w : World} {a : Option Addr} {l : List Pr} (h : PArg w a l) {j : Nat} (hj : j < l.length) : ∃ p off, a = some ⟨p, off, none⟩ ∧ PRow w p off l := by
  rcases h with h | h
  · rw [h] at hj; simp at hj
  · exact h
/-- A row of texts. -/
structure TRow (w : World) (p off : Nat) (l : List ByteArray) : Prop where
  lt : p < w.heap.size
  c : ∀ j (h : j < l.length), w.cell? ⟨p, off + j, none⟩ = some (.string l[j])
theorem TRow.later {w w' : World} {p off : Nat} {l : List ByteArray} (h : TRow w p off l) (k : Kept w w') : TRow w' p off l :=
  ⟨Nat.lt_of_lt_of_le h.lt k.le, fun j hj => (k.rd.1 _ _ h.lt).trans (h.c j hj)⟩
def TArg (w : World) (a : Option Addr) (l : List ByteArray) : Prop := l = [] ∨ ∃ p off, a = some ⟨p, off, none⟩ ∧ TRow w p off l
theorem TArg.later {w w' : World} {a : Option Addr} {l : List ByteArray} (h : TArg w a l) (k : Kept w w') : TArg w' a l := by
  rcases h with h | ⟨p, off, e, h⟩
  · exact .inl h
  · exact .inr ⟨p, off, e, h.later k⟩
theorem TArg.at {w : World} {a : Option Addr} {l : List ByteArray} (h : TArg w a l) {j : Nat} (hj : j < l.length) : ∃ p off, a = some ⟨p, off, none⟩ ∧ TRow w p off l := by
  rcases h with h | h
  · rw [h] at hj; simp at hj
  · exact h

/-- A text before another, or the same. -/
def leB (a b : ByteArray) : Bool := Op.bytesLess a.toList b.toList || a.toList == b.toList
/-- P29, the accounts behind one. -/
def acL (b : ByteArray) : List Pr → Int
  | [] => 0
  | x :: r => if codeB x.1 = true then (if x.2 < 0 ∨ 4 < x.2 then 1 else if leB x.1 b = true then 3 else acL x.1 r) else 3
/-- P29: the error of a list of accounts. -/
def acE (l : List Pr) : Int := if 24 < l.length then 2 else acL ⟨#[]⟩ l
theorem drop_at {α : Type} (l : List α) (j : Nat) (h : j < l.length) : l.drop j = l[j] :: l.drop (j + 1) := List.drop_eq_getElem_cons h
end Go.Proofs.Ytdgiljndoeldcaa
