/-
  What package acct's Kind returns. No condition but those that each theorem names.
-/
import Derived.Test.YtdgiljndoeldcaaAMath
namespace Go.Proofs.Ytdgiljndoeldcaa
open Go.RowKit
set_option linter.unusedVariables false

/-- The accounts with a code. -/
def isB (c : ByteArray) (x : Pr) : Bool := x.1.toList == c.toList
set_option maxHeartbeats 1000000 in
theorem kclo_any (bx : Nat) (c : ByteArray) (x : Pr) (w : World) (hB : SBx w bx c) :
    Calls Try.prog 88 #[.agg #[.string x.1, .int .i64 x.2], .pointer (some ⟨bx, 0, none⟩)] w fun e w' => e = .returned (.bool (isB c x)) ∧ Kept w w' := by
  have hK := (Kept.refl w).alloc (.cells #[.string x.1, .int .i64 x.2] 84)
  obtain ⟨b0, b1⟩ := hB.later hK
  obtain ⟨b2, _⟩ := hB
  go_enter Try.func88, Try.ntmps88
  go_wp2
  go_ret
  exact ⟨rfl, hK⟩
/-- P30: the kind, or the error. -/
def kdV (m : List Pr) : Int := match m with | [] => 0 | x :: _ => x.2
def kdE (m : List Pr) : Int := match m with | [] => 4 | _ :: _ => 0
set_option maxHeartbeats 1000000 in
theorem kind_yes (a : Option Addr) (l : List Pr) (cap : Nat) (c : ByteArray) (w : World) (hA : PArg w a l) (hs : Shortish l) (hn : l.length ≤ maxLen) (ok : acE l = 0) :
    Calls Try.prog 66 #[.slice a l.length cap, .string c] w fun e w' => e = .returned (.tuple #[.int .i64 (kdV (l.filter (isB c))), .int .i64 (kdE (l.filter (isB c)))]) ∧ Kept w w' := by
  have l24 := acE_24 ok
  have k0 := (Kept.refl w).alloc (.cells #[.string c] 9)
  have HF := Lib.hid (find_yesKind a l cap w.heap.size (isB c) (w.alloc (.cells #[.string c] 9)) (hA.later k0) hs hn ok (fun w1 x k hx => kclo_any _ c x w1 ((SBx.new w c 9).later k)))
  have hlen : (l.filter (isB c)).length ≤ 24 := by
    have := List.length_filter_le (isB c) l
    omega
  clear hA hs hn ok
  generalize l.filter (isB c) = m at *
  cases m with
  | nil =>
    go_enter Try.func66, Try.ntmps66
    go_wp2_with fail
    refine (HF.out).mono ?_
    rintro e w1 ⟨ad, cp, rfl, hG, hK⟩
    rw [List.length_nil]
    go_wp2
    go_ret2
    exact ⟨rfl, k0.trans hK⟩
  | cons x r =>
    go_enter Try.func66, Try.ntmps66
    go_wp2_with fail
    refine (HF.out).mono ?_
    rintro e w1 ⟨ad, cp, rfl, hG, hK⟩
    obtain ⟨p, off, rfl, hR⟩ := hG.arg.at (j := 0) (by simp)
    have c1 := hR.c1 0 (by simp)
    have plt := hR.lt
    simp only [Nat.zero_mul, Nat.add_zero, List.getElem_cons_zero] at c1
    have h1 : 1 ≤ (x :: r).length := by simp
    have HV := Lib.hid (show kdV (x :: r) = x.2 ∧ kdE (x :: r) = 0 from ⟨rfl, rfl⟩)
    generalize hn : (x :: r).length = n at *
    clear hn hG hR
    have n0 : ((n : Int) == 0) = false := by rw [beq_eq_false_iff_ne]; omega
    have n1 : (0 : Int) < (n : Int) := by omega
    have n2 : 0 < n := by omega
    go_wp2
    go_ret2
    exact ⟨by rw [HV.out.1, HV.out.2]; rfl, k0.trans hK⟩
set_option maxHeartbeats 1000000 in
theorem kind_no (a : Option Addr) (l : List Pr) (cap : Nat) (c : ByteArray) (w : World) (hA : PArg w a l) (hs : Shortish l) (hn : l.length ≤ maxLen) (ok : acE l ≠ 0) :
    Calls Try.prog 66 #[.slice a l.length cap, .string c] w fun e w' => e = .returned (.tuple #[.int .i64 0, .int .i64 (acE l)]) ∧ Kept w w' := by
  have k0 := (Kept.refl w).alloc (.cells #[.string c] 9)
  have HF := Lib.hid (find_noKind a l cap w.heap.size (w.alloc (.cells #[.string c] 9)) (hA.later k0) hs hn ok)
  have O2 : (acE l != 0) = true := by simpa using ok
  clear hA hs hn ok
  generalize acE l = er at *
  go_enter Try.func66, Try.ntmps66
  go_wp2_with fail
  refine (HF.out).mono ?_
  rintro e w1 ⟨rfl, hK⟩
  go_wp2
  go_ret2
  exact ⟨rfl, k0.trans hK⟩
theorem isB_iff {c : ByteArray} {x : Pr} : isB c x = true ↔ x.1 = c := by
  unfold isB
  constructor
  · intro h; exact ba_ext (beq_iff_eq.1 h)
  · rintro rfl; simp
end Go.Proofs.Ytdgiljndoeldcaa
