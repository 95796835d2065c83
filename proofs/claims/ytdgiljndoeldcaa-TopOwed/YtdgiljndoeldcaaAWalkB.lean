/-
  What package acct's find, Under and Kind return. No condition but those that each theorem names.
-/
import Derived.Test.YtdgiljndoeldcaaAGrow
namespace Go.Proofs.Ytdgiljndoeldcaa
open Go.RowKit
set_option linter.unusedVariables false

/-- A struct of a text and a number, in a box of its own. -/
structure PBx (w : World) (p : Nat) (x : Pr) : Prop where
  lt : p < w.heap.size
  c0 : w.cell? ⟨p, 0, none⟩ = some (.string x.1)
  c1 : w.cell? ⟨p, 1, none⟩ = some (.int .i64 x.2)
theorem PBx.later {w w' : World} {p : Nat} {x : Pr} (h : PBx w p x) (k : Kept w w') : PBx w' p x :=
  ⟨Nat.lt_of_lt_of_le h.lt k.le, (k.rd.1 _ _ h.lt).trans h.c0, (k.rd.1 _ _ h.lt).trans h.c1⟩
theorem PBx.new (w : World) (x : Pr) (t : TypeId) : PBx (w.alloc (.cells #[.string x.1, .int .i64 x.2] t)) w.heap.size x := ⟨by simp, by simp, by simp⟩
/-- A text in a box of its own. -/
structure SBx (w : World) (p : Nat) (s : ByteArray) : Prop where
  lt : p < w.heap.size
  c0 : w.cell? ⟨p, 0, none⟩ = some (.string s)
theorem SBx.later {w w' : World} {p : Nat} {s : ByteArray} (h : SBx w p s) (k : Kept w w') : SBx w' p s :=
  ⟨Nat.lt_of_lt_of_le h.lt k.le, (k.rd.1 _ _ h.lt).trans h.c0⟩
theorem SBx.new (w : World) (s : ByteArray) (t : TypeId) : SBx (w.alloc (.cells #[.string s] t)) w.heap.size s := ⟨by simp, by simp⟩
/-- A row of pairs, and no error. -/
def FindYes (w : World) (l : List Pr) (e : Ending) (w' : World) : Prop := ∃ a c, e = .returned (.tuple #[.slice a l.length c, .int .i64 0]) ∧ PGr 84 w.heap.size w' (.slice a l.length c) l ∧ Kept w w'
/-- None, and an error. -/
def RowNo (w : World) (er : Int) (e : Ending) (w' : World) : Prop := e = .returned (.tuple #[.slice none 0 0, .int .i64 er]) ∧ Kept w w'
theorem filt_take {P : Pr → Bool} {l : List Pr} {k : Nat} (h : k < l.length) : (l.take (k + 1)).filter P = (l.take k).filter P ++ (if P l[k] = true then [l[k]] else []) := by
  rw [List.take_succ_eq_append_getElem h, List.filter_append]
  by_cases c : P l[k] = true <;> simp [c]
theorem acE_24 {l : List Pr} (ok : acE l = 0) : l.length ≤ 24 := by
  unfold acE at ok
  split at ok
  · cases ok
  · omega

/-- What is asked of what is handed to find. -/
def CloKind (w : World) (bx : Nat) (l : List Pr) (P : Pr → Bool) : Prop :=
  ∀ (w1 : World) (x : Pr), Kept w w1 → x ∈ l → Calls Try.prog 88 #[.agg #[.string x.1, .int .i64 x.2], .pointer (some ⟨bx, 0, none⟩)] w1 fun e w2 => e = .returned (.bool (P x)) ∧ Kept w1 w2
abbrev fnKind (bx : Nat) : Value := .func (.func 88) #[] #[.pointer (some ⟨bx, 0, none⟩)]
set_option maxHeartbeats 2000000 in
theorem find_yesKind (a : Option Addr) (l : List Pr) (cap : Nat) (bx : Nat) (P : Pr → Bool) (w : World) (hA : PArg w a l) (hs : Shortish l) (hn : l.length ≤ maxLen) (ok : acE l = 0) (hC : CloKind w bx l P) :
    Calls Try.prog 87 #[.slice a l.length cap, fnKind bx] w (FindYes w (l.filter P)) := by
  have l24 := acE_24 ok
  have HA := Lib.hid hA
  have HC := Lib.hid hC
  have O := Lib.hid ok
  clear hA hC ok
  go_enter Try.func87, Try.ntmps87
  go_wp2_with fail
  refine (acheck_anyA _ _ _ _ HA.out hs hn).mono ?_
  rintro e w1 ⟨rfl, hK1⟩
  rw [O.out]
  clear hn
  go_wp2
  go_loopw [7, 17] (fun v i wr => ∃ k : Nat, k ≤ l.length ∧ i = .int .i64 k ∧ PGr 84 w.heap.size wr v ((l.take k).filter P) ∧ Kept w wr) (fun _ i _ => l.length - (intOf i).toNat)
  case atStart => exact ⟨0, Nat.zero_le _, rfl, PGr.nil _ _ _, hK1⟩
  case round =>
    clear hK1
    obtain ⟨k, hk, rfl, hG, hK⟩ := hrel
    obtain ⟨ad, cp, rfl, _, _⟩ := hG.form
    by_cases hlt : k < l.length
    · obtain ⟨p, off, rfl, hR⟩ := HA.out.at hlt
      have hR := hR.later hK
      have c0 := hR.c0 k hlt
      have c1 := hR.c1 k hlt
      have plt := hR.lt
      have HF := Lib.hid (filt_take (P := P) hlt)
      have HM := Lib.hid (show l[k] ∈ l from List.getElem_mem _)
      have hlen : ((l.take k).filter P).length ≤ 24 := by
        have := List.length_filter_le P (l.take k)
        rw [List.length_take] at this; omega
      clear hR
      generalize l[k] = x at *
      generalize (l.take k).filter P = m at *
      go_wp2_with fail
      refine (HC.out _ x (hK.alloc _) HM.out).mono ?_
      rintro e w2 ⟨rfl, hK2⟩
      have hX := (PBx.new wr x 84).later hK2
      have hK3 := (hK.alloc (.cells #[.string x.1, .int .i64 x.2] 84)).trans hK2
      have hG3 := (hG.later ((Kept.refl wr).alloc (.cells #[.string x.1, .int .i64 x.2] 84))).later hK2
      clear hK hG hK2 c0 c1 plt
      generalize wr.heap.size = b at *
      cases hp : P x
      · have HP := Lib.hid hp
        clear hp
        go_wp2
        go_roundw
        case rel => exact ⟨k + 1, by omega, by go_num, by rw [HF.out, HP.out]; simpa using hG3, hK3⟩
        case measure => simp [intOf]; omega
      · have HP := Lib.hid hp
        clear hp
        obtain ⟨x0, x1, x2⟩ := id hX
        have hG4 := hG3.later ((Kept.refl w2).alloc (.cells #[.string x.1, .int .i64 x.2] 84))
        have hK4 := hK3.alloc (.cells #[.string x.1, .int .i64 x.2] 84)
        have n0 : (w2.alloc (.cells #[.string x.1, .int .i64 x.2] 84)).cell? ⟨w2.heap.size, 0, none⟩ = some (.string x.1) := by simp
        have n1 : (w2.alloc (.cells #[.string x.1, .int .i64 x.2] 84)).cell? ⟨w2.heap.size, 1, none⟩ = some (.int .i64 x.2) := by simp
        have N0 := Lib.hid n0
        have N1 := Lib.hid n1
        clear n0 n1
        go_wp2_with (at_builtin; refine app_pr 84 55 pairAcct Try.underlying55 rfl _ _ rfl rfl rfl hG4 N0.out N1.out (by omega) (by have := hK4.size; omega) ?_)
        intro v' w5 hG5 hgr
        have hK5 := hG4.below (Nat.le_refl _) hK4 hgr
        obtain ⟨a5, c5, rfl, _, _⟩ := hG5.form
        clear hG4 hK4 hG3 hK3 hgr x0 x1 x2 hX
        go_wp2
        go_roundw
        case rel => exact ⟨k + 1, by omega, by go_num, by rw [HF.out, HP.out]; simpa using hG5, hK5⟩
        case measure => simp [intOf]; omega
    · obtain rfl : k = l.length := by omega
      clear hlt
      rw [List.take_length] at hG ⊢
      go_wp2
      go_ret2
      exact ⟨ad, cp, rfl, hG, hK⟩
set_option maxHeartbeats 1000000 in
theorem find_noKind (a : Option Addr) (l : List Pr) (cap : Nat) (bx : Nat) (w : World) (hA : PArg w a l) (hs : Shortish l) (hn : l.length ≤ maxLen) (ok : acE l ≠ 0) :
    Calls Try.prog 87 #[.slice a l.length cap, fnKind bx] w (RowNo w (acE l)) := by
  have HA := Lib.hid hA
  have O : (acE l == 0) = false := by simpa using ok
  have O2 : (acE l != 0) = true := by simpa using ok
  clear hA ok
  go_enter Try.func87, Try.ntmps87
  go_wp2_with fail
  refine (acheck_anyA _ _ _ _ HA.out hs hn).mono ?_
  rintro e w1 ⟨rfl, hK1⟩
  go_wp2
  go_ret2
  exact ⟨rfl, hK1⟩

/-- Has a text a prefix? -/
def preB (c s : ByteArray) : Bool := decide (c.size ≤ s.size) && (s.extract 0 c.size).toList == c.toList
/-- A row of texts, and no error. -/
def TextsYes (w : World) (l : List ByteArray) (e : Ending) (w' : World) : Prop := ∃ p, w.heap.size ≤ p ∧ e = .returned (.tuple #[.slice (some ⟨p, 0, none⟩) l.length l.length, .int .i64 0]) ∧ TOwn w' p l ∧ Kept w w'
/-- P30: the codes under a code. -/
def undL (c : ByteArray) (l : List Pr) : List ByteArray := (l.filter fun x => preB c x.1).map Prod.fst
/-- The first k of one list, the rest of another. -/
def mixL (l : List ByteArray) (n k : Nat) : List ByteArray := l.take k ++ List.replicate (n - k) ⟨#[]⟩
theorem mixL_len {l : List ByteArray} {k : Nat} (h : k ≤ l.length) : (mixL l l.length k).length = l.length := by unfold mixL; simp; omega
theorem mixL_set {l : List ByteArray} {k : Nat} (h : k < l.length) : (mixL l l.length k).set k l[k] = mixL l l.length (k + 1) := by
  apply List.ext_getElem?
  intro i
  unfold mixL
  rw [List.getElem?_set]
  simp only [List.getElem?_append, List.length_take, List.getElem?_take, List.getElem?_replicate, List.length_append, List.length_replicate, Nat.min_eq_left (Nat.le_of_lt h), Nat.min_eq_left (show k + 1 ≤ l.length from h)]
  by_cases e : k = i
  · subst e
    simp [h]; omega
  · by_cases c : i < k
    · simp [e, c, show i < k + 1 by omega]
    · simp [e, c, show ¬ i < k + 1 by omega]
      by_cases d : i < l.length
      · simp [show i - k < l.length - k by omega, show i - (k + 1) < l.length - (k + 1) by omega]
      · simp [show ¬ i - k < l.length - k by omega, show ¬ i - (k + 1) < l.length - (k + 1) by omega]
end Go.Proofs.Ytdgiljndoeldcaa
