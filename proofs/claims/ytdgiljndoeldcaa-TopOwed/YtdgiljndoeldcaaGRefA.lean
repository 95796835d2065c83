/-
  What the reference says of items. No condition but those that each theorem names.
-/
import Derived.Test.YtdgiljndoeldcaaGAge
import Derived.Test.YtdgiljndoeldcaaPApp
namespace Go.Proofs.Ytdgiljndoeldcaa
open Go.RowKit
set_option linter.unusedVariables false

def inG (x a b : Int) : Bool := decide (a ≤ x) && decide (x ≤ b)
set_option maxHeartbeats 2000000 in
theorem gwi_any (x a b : Int) (w : World) :
    Calls Try.prog 45 #[.int .i64 x, .int .i64 a, .int .i64 b] w fun e w' => e = .returned (.bool (inG x a b)) ∧ w = w' := by
  by_cases h : a ≤ x
  · by_cases g : x ≤ b
    · go_enter Try.func45, Try.ntmps45
      go_wp2
      go_ret
      exact ⟨by simp [inG, h, g], rfl⟩
    · have g' : b < x := by omega
      go_enter Try.func45, Try.ntmps45
      go_wp2
      go_ret
      exact ⟨by simp [inG, g'], rfl⟩
  · have h' : x < a := by omega
    go_enter Try.func45, Try.ntmps45
    go_wp2
    go_ret
    exact ⟨by simp [inG]; omega, rfl⟩
theorem inG_yes {x a b : Int} (h1 : a ≤ x) (h2 : x ≤ b) : inG x a b = true := by simp [inG, h1, h2]
theorem inG_no {x a b : Int} (h : ¬ (a ≤ x ∧ x ≤ b)) : inG x a b = false := by
  unfold inG
  by_cases h1 : a ≤ x
  · have : ¬ x ≤ b := fun h2 => h ⟨h1, h2⟩
    simp [this]
  · simp [h1]
set_option maxHeartbeats 2000000 in
theorem gday_any (n : Int) (w : World) : Calls Try.prog 21 #[.int .i64 n] w fun e w' => e = .returned (.bool (inG n 0 292193)) ∧ w = w' := by
  go_enter Try.func21, Try.ntmps21
  go_wp2_with fail
  refine (gwi_any _ _ _ _).mono ?_
  rintro e w1 ⟨rfl, rfl⟩
  go_wp2
  go_ret
  exact ⟨rfl, rfl⟩
theorem all_take {α : Type} {P : α → Bool} {l : List α} {k : Nat} (h : k < l.length) (a : (l.take k).all P = true) (b : P l[k] = true) : (l.take (k + 1)).all P = true := by
  rw [take_snocP l k h, List.all_append, a]; simp [b]
set_option maxHeartbeats 4000000 in
theorem ritems_large (a : Option Addr) (l : List Mv) (cap : Nat) (w : World) (h : 40 < l.length) (hn : l.length ≤ maxLen) :
    Calls Try.prog 17 #[.slice a l.length cap] w fun e w' => e = .returned (.int .i64 (itE l)) ∧ Kept w w' := by
  have E : itE l = 2 := by unfold itE; rw [if_pos h]
  rw [E]
  unfold maxLen at hn
  go_enter Try.func17, Try.ntmps17
  go_wp2
  go_ret
  exact ⟨rfl, Kept.refl _⟩
set_option maxHeartbeats 4000000 in
theorem ritems_in (a : Option Addr) (l : List Mv) (cap : Nat) (w : World) (h : l.length ≤ 40) (hA : JArg eP w a l) :
    Calls Try.prog 17 #[.slice a l.length cap] w fun e w' => e = .returned (.int .i64 (itE l)) ∧ Kept w w' := by
  have HA := Lib.hid hA
  have SE := Lib.hid (show itE l = if l.all itB = true then 0 else 1 by unfold itE; rw [if_neg (by omega)])
  clear hA
  go_enter Try.func17, Try.ntmps17
  go_wp2
  go_loopw [10] (fun i wr => ∃ (k : Nat), k ≤ l.length ∧ i = .int .i64 k ∧ Hid ((l.take k).all itB = true) ∧ Kept w wr) (fun i _ => l.length - (intOf i).toNat)
  case atStart => exact ⟨0, Nat.zero_le _, rfl, Lib.hid rfl, Kept.refl _⟩
  case round =>
    obtain ⟨k, hk, rfl, HE, hK⟩ := hrel
    by_cases hlt : k < l.length
    · obtain ⟨p, off, rfl, hR⟩ := HA.out.at hlt
      have hR := hR.later hK
      have c0 := hR.c0 k hlt
      have c1 := hR.c1 k hlt
      have plt := hR.lt
      have AT := Lib.hid (fun b => all_take (P := itB) hlt HE.out b)
      have NO := Lib.hid (fun (b : itB l[k] = false) => show itE l = 1 from by
        rw [SE.out, if_neg]
        intro c
        rw [List.all_eq_true] at c
        rw [c _ (List.getElem_mem hlt)] at b
        cases b)
      clear hR
      generalize l[k] = x at *
      have kA := hK.alloc (.cells #[.int .i64 x.1, .int .i64 x.2] 31)
      by_cases r1 : 0 ≤ x.1 ∧ x.1 ≤ 292193
      · have I1 := Lib.hid (inG_yes r1.1 r1.2)
        by_cases r2 : 1 ≤ x.2 ∧ x.2 ≤ 1000000000000
        · have I2 := Lib.hid (inG_yes r2.1 r2.2)
          have OK := Lib.hid (AT.out (itB_iff.2 ⟨r1.1, r1.2, r2.1, r2.2⟩))
          clear hK r1 r2
          go_wp2_with fail
          refine (gday_any _ _).mono ?_
          rintro e w1 ⟨rfl, rfl⟩
          rw [I1.out]
          go_wp2_with fail
          refine (gwi_any _ _ _ _).mono ?_
          rintro e w1 ⟨rfl, rfl⟩
          rw [I2.out]
          go_wp2
          go_roundw
          case rel => exact ⟨k + 1, by omega, by go_num, OK, kA⟩
          case measure => simp [intOf]; omega
        · have I2 := Lib.hid (inG_no r2)
          have HX := Lib.hid (NO.out (by cases e : itB x; rfl; exact absurd ⟨(itB_iff.1 e).2.2.1, (itB_iff.1 e).2.2.2⟩ r2))
          clear hK r1 r2
          go_wp2_with fail
          refine (gday_any _ _).mono ?_
          rintro e w1 ⟨rfl, rfl⟩
          rw [I1.out]
          go_wp2_with fail
          refine (gwi_any _ _ _ _).mono ?_
          rintro e w1 ⟨rfl, rfl⟩
          rw [I2.out]
          go_wp2
          go_ret
          exact ⟨ret_int HX.out.symm, kA⟩
      · have I1 := Lib.hid (inG_no r1)
        have HX := Lib.hid (NO.out (by cases e : itB x; rfl; exact absurd ⟨(itB_iff.1 e).1, (itB_iff.1 e).2.1⟩ r1))
        clear hK r1
        go_wp2_with fail
        refine (gday_any _ _).mono ?_
        rintro e w1 ⟨rfl, rfl⟩
        rw [I1.out]
        go_wp2
        go_ret
        exact ⟨ret_int HX.out.symm, kA⟩
    · obtain rfl : k = l.length := by omega
      have Z := Lib.hid (show itE l = 0 by
        have := HE.out
        rw [List.take_length] at this
        rw [SE.out, if_pos this])
      clear hlt HE
      go_wp2
      go_ret
      exact ⟨ret_int Z.out.symm, hK⟩
theorem ritems_any (a : Option Addr) (l : List Mv) (cap : Nat) (w : World) (hn : l.length ≤ maxLen) (hA : JArg eP w a l) :
    Calls Try.prog 17 #[.slice a l.length cap] w fun e w' => e = .returned (.int .i64 (itE l)) ∧ Kept w w' := by
  by_cases h : 40 < l.length
  · exact ritems_large a l cap w h hn
  · exact ritems_in a l cap w (by omega) hA
end Go.Proofs.Ytdgiljndoeldcaa
