/-
  What strings.Compare says of texts, and slices.BinarySearchFunc of accounts in order. No condition but those that each theorem names.
-/
import Derived.Test.YtklbikifcebckaaVShelf
import Derived.Test.YtklbikifcebckaaVWalkD
namespace Go.Proofs.Ytklbikifcebckaa
open Go.RowKit
set_option linter.unusedVariables false

/-- What strings.Compare returns. -/
def cmpV (a b : ByteArray) : Int := Lib.compareBytes a.data.toList b.data.toList
theorem cb_self : ∀ x : List UInt8, Lib.compareBytes x x = 0
  | [] => rfl
  | a :: x => by unfold Lib.compareBytes; rw [if_neg (UInt8.lt_irrefl a), if_neg (UInt8.lt_irrefl a)]; exact cb_self x
theorem cb_lt : ∀ x y : List UInt8, Op.bytesLess x y = true → Lib.compareBytes x y = -1 ∧ Lib.compareBytes y x = 1
  | _, [], h => by simp [Op.bytesLess] at h
  | [], b :: y, _ => ⟨rfl, rfl⟩
  | a :: x, b :: y, h => by
    rw [Op.bytesLess] at h
    simp only [Bool.or_eq_true, Bool.and_eq_true, decide_eq_true_eq, beq_iff_eq] at h
    unfold Lib.compareBytes
    rcases h with h | ⟨rfl, h⟩
    · have h2 : ¬ b < a := fun k => UInt8.lt_irrefl a (UInt8.lt_trans h k)
      rw [if_pos h, if_neg h2, if_pos h]; exact ⟨rfl, rfl⟩
    · have q := UInt8.lt_irrefl a
      simp only [q, if_false]; exact cb_lt x y h
theorem cmp_self (a : ByteArray) : cmpV a a = 0 := cb_self _
theorem cmp_lt {a b : ByteArray} (h : ltB a b = true) : cmpV a b < 0 := by
  unfold ltB at h; rw [Lib.toList_data, Lib.toList_data] at h
  unfold cmpV; rw [(cb_lt _ _ h).1]; omega
theorem cmp_gt {a b : ByteArray} (h : ltB a b = true) : ¬ cmpV b a < 0 := by
  unfold ltB at h; rw [Lib.toList_data, Lib.toList_data] at h
  unfold cmpV; rw [(cb_lt _ _ h).2]; omega
theorem inc_at {l : List Pr} (hi : Inc (l.map Prod.fst)) {i j : Nat} (hl : i < l.length) (hj : j < l.length) (h : i < j) : ltB (l[i]).1 (l[j]).1 = true := by
  have := hi.at i j (by simpa using hl) (by simpa using hj) h
  simpa using this
set_option maxHeartbeats 1000000 in
theorem cmp1_any (x : Pr) (c : ByteArray) (w : World) :
    Calls Try.prog 25 #[.agg #[.string x.1, .int .i64 x.2], .string c] w fun e w' => e = .returned (.int .i64 (cmpV x.1 c)) ∧ Kept w w' := by
  have hK := (Kept.refl w).alloc (.cells #[.string x.1, .int .i64 x.2] 55)
  go_enter Try.func25, Try.ntmps25
  go_wp2_with fail
  refine (Try.strings_Compare _ _ _).mono ?_
  rintro e w1 ⟨rfl, rfl⟩
  go_wp2
  go_ret
  exact ⟨rfl, hK⟩
set_option maxRecDepth 100000 in
set_option maxHeartbeats 2000000 in
theorem bs1_any (l : List Pr) (a : Option Addr) (cap : Nat) (c : ByteArray) (z : Nat) (w : World) (hA : PArg w a l) (hi : Inc (l.map Prod.fst)) (n24 : l.length ≤ 24) (hz : z < l.length) (hc : (l[z]).1 = c) :
    Calls Try.prog 24 #[.slice a l.length cap, .string c, .func (.func 25) #[] #[]] w fun e w' => e = .returned (.tuple #[.int .i64 z, .bool true]) ∧ Kept w w' := by
  have LT := Lib.hid (fun h (hh : h < l.length) (hlt : h < z) => cmp_lt (inc_at hi hh hz hlt))
  have GE := Lib.hid (fun h (hh : h < l.length) (hge : z ≤ h) => show ¬ cmpV (l[h]).1 (l[z]).1 < 0 from (by
    by_cases e : h = z
    · subst e; rw [cmp_self]; omega
    · exact cmp_gt (inc_at hi hz hh (by omega))))
  have EQ := Lib.hid (show cmpV (l[z]).1 c = 0 by rw [hc, cmp_self])
  rw [hc] at LT GE
  obtain ⟨p, off, rfl, hR⟩ := hA.at hz
  have HR := Lib.hid hR
  have HC := Lib.hid hc
  clear hA hi hR hc
  go_enter Try.func24, Try.ntmps24
  go_wp2
  go_loopw [9, 10] (fun u v wr => ∃ i j : Nat, i ≤ z ∧ z ≤ j ∧ j ≤ l.length ∧ u = .int .i64 i ∧ v = .int .i64 j ∧ Kept w wr) (fun u v _ => (intOf v - intOf u).toNat)
  case atStart => exact ⟨0, l.length, by omega, by omega, by omega, rfl, rfl, Kept.refl w⟩
  case round =>
    obtain ⟨i, j, hi, hij, hj, rfl, rfl, hK⟩ := hrel
    by_cases lt : i < j
    · obtain ⟨h, hh⟩ : ∃ h : Nat, ((i : Int) + (j : Int)) / 2 = h := ⟨(i + j) / 2, by omega⟩
      have h0 : i ≤ h := by omega
      have h1 : h < j := by omega
      have hl : h < l.length := by omega
      have c0 := (HR.out.later hK).c0 h hl
      have c1 := (HR.out.later hK).c1 h hl
      have plt := (HR.out.later hK).lt
      have i0 : (0 : Int) ≤ (h : Int) := by omega
      have i1 : (h : Int) < (l.length : Int) := by omega
      by_cases hlt : h < z
      · have L1 := LT.out h hl hlt
        generalize l[h] = x at *
        have CM := Lib.hid (cmp1_any x c wr)
        generalize cmpV x.1 c = cv at *
        go_wp2_with fail
        refine CM.out.mono ?_
        rintro e w1 ⟨rfl, hK1⟩
        go_wp2
        go_roundw
        case rel => exact ⟨h + 1, j, by omega, by omega, hj, by go_num, rfl, hK.trans hK1⟩
        case measure => simp [intOf]; omega
      · have L1 := GE.out h hl (by omega)
        generalize l[h] = x at *
        have CM := Lib.hid (cmp1_any x c wr)
        generalize cmpV x.1 c = cv at *
        go_wp2_with fail
        refine CM.out.mono ?_
        rintro e w1 ⟨rfl, hK1⟩
        go_wp2
        go_roundw
        case rel => exact ⟨i, h, by omega, by omega, by omega, rfl, rfl, hK.trans hK1⟩
        case measure => simp [intOf]; omega
    · obtain rfl : i = z := by omega
      have hjz : ¬ (i : Int) < (j : Int) := by omega
      clear lt
      have c0 := (HR.out.later hK).c0 i hz
      have c1 := (HR.out.later hK).c1 i hz
      have plt := (HR.out.later hK).lt
      have i0 : (0 : Int) ≤ (i : Int) := by omega
      have i1 : (i : Int) < (l.length : Int) := by omega
      clear LT GE
      generalize l[i] = x at *
      have CM := Lib.hid (cmp1_any x c wr)
      rw [EQ.out] at CM
      go_wp2_with fail
      refine CM.out.mono ?_
      rintro e w1 ⟨rfl, hK1⟩
      go_wp2
      go_ret2
      exact ⟨rfl, hK.trans hK1⟩
set_option maxHeartbeats 1000000 in
theorem cmp2_any (x : Pr) (c : ByteArray) (w : World) :
    Calls Try.prog 27 #[.agg #[.string x.1, .int .i64 x.2], .string c] w fun e w' => e = .returned (.int .i64 (cmpV x.1 c)) ∧ Kept w w' := by
  have hK := (Kept.refl w).alloc (.cells #[.string x.1, .int .i64 x.2] 55)
  go_enter Try.func27, Try.ntmps27
  go_wp2_with fail
  refine (Try.strings_Compare _ _ _).mono ?_
  rintro e w1 ⟨rfl, rfl⟩
  go_wp2
  go_ret
  exact ⟨rfl, hK⟩
set_option maxRecDepth 100000 in
set_option maxHeartbeats 2000000 in
theorem bs2_any (l : List Pr) (a : Option Addr) (cap : Nat) (c : ByteArray) (z : Nat) (w : World) (hA : PArg w a l) (hi : Inc (l.map Prod.fst)) (n24 : l.length ≤ 24) (hz : z < l.length) (hc : (l[z]).1 = c) :
    Calls Try.prog 24 #[.slice a l.length cap, .string c, .func (.func 27) #[] #[]] w fun e w' => e = .returned (.tuple #[.int .i64 z, .bool true]) ∧ Kept w w' := by
  have LT := Lib.hid (fun h (hh : h < l.length) (hlt : h < z) => cmp_lt (inc_at hi hh hz hlt))
  have GE := Lib.hid (fun h (hh : h < l.length) (hge : z ≤ h) => show ¬ cmpV (l[h]).1 (l[z]).1 < 0 from (by
    by_cases e : h = z
    · subst e; rw [cmp_self]; omega
    · exact cmp_gt (inc_at hi hz hh (by omega))))
  have EQ := Lib.hid (show cmpV (l[z]).1 c = 0 by rw [hc, cmp_self])
  rw [hc] at LT GE
  obtain ⟨p, off, rfl, hR⟩ := hA.at hz
  have HR := Lib.hid hR
  have HC := Lib.hid hc
  clear hA hi hR hc
  go_enter Try.func24, Try.ntmps24
  go_wp2
  go_loopw [9, 10] (fun u v wr => ∃ i j : Nat, i ≤ z ∧ z ≤ j ∧ j ≤ l.length ∧ u = .int .i64 i ∧ v = .int .i64 j ∧ Kept w wr) (fun u v _ => (intOf v - intOf u).toNat)
  case atStart => exact ⟨0, l.length, by omega, by omega, by omega, rfl, rfl, Kept.refl w⟩
  case round =>
    obtain ⟨i, j, hi, hij, hj, rfl, rfl, hK⟩ := hrel
    by_cases lt : i < j
    · obtain ⟨h, hh⟩ : ∃ h : Nat, ((i : Int) + (j : Int)) / 2 = h := ⟨(i + j) / 2, by omega⟩
      have h0 : i ≤ h := by omega
      have h1 : h < j := by omega
      have hl : h < l.length := by omega
      have c0 := (HR.out.later hK).c0 h hl
      have c1 := (HR.out.later hK).c1 h hl
      have plt := (HR.out.later hK).lt
      have i0 : (0 : Int) ≤ (h : Int) := by omega
      have i1 : (h : Int) < (l.length : Int) := by omega
      by_cases hlt : h < z
      · have L1 := LT.out h hl hlt
        generalize l[h] = x at *
        have CM := Lib.hid (cmp2_any x c wr)
        generalize cmpV x.1 c = cv at *
        go_wp2_with fail
        refine CM.out.mono ?_
        rintro e w1 ⟨rfl, hK1⟩
        go_wp2
        go_roundw
        case rel => exact ⟨h + 1, j, by omega, by omega, hj, by go_num, rfl, hK.trans hK1⟩
        case measure => simp [intOf]; omega
      · have L1 := GE.out h hl (by omega)
        generalize l[h] = x at *
        have CM := Lib.hid (cmp2_any x c wr)
        generalize cmpV x.1 c = cv at *
        go_wp2_with fail
        refine CM.out.mono ?_
        rintro e w1 ⟨rfl, hK1⟩
        go_wp2
        go_roundw
        case rel => exact ⟨i, h, by omega, by omega, by omega, rfl, rfl, hK.trans hK1⟩
        case measure => simp [intOf]; omega
    · obtain rfl : i = z := by omega
      have hjz : ¬ (i : Int) < (j : Int) := by omega
      clear lt
      have c0 := (HR.out.later hK).c0 i hz
      have c1 := (HR.out.later hK).c1 i hz
      have plt := (HR.out.later hK).lt
      have i0 : (0 : Int) ≤ (i : Int) := by omega
      have i1 : (i : Int) < (l.length : Int) := by omega
      clear LT GE
      generalize l[i] = x at *
      have CM := Lib.hid (cmp2_any x c wr)
      rw [EQ.out] at CM
      go_wp2_with fail
      refine CM.out.mono ?_
      rintro e w1 ⟨rfl, hK1⟩
      go_wp2
      go_ret2
      exact ⟨rfl, hK.trans hK1⟩
end Go.Proofs.Ytklbikifcebckaa
