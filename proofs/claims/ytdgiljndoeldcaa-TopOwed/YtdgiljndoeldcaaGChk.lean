/-
  What package age's checks return. No condition but those that each theorem names.
-/
import Derived.Test.YtdgiljndoeldcaaGRefA
namespace Go.Proofs.Ytdgiljndoeldcaa
open Go.RowKit
set_option linter.unusedVariables false

set_option maxHeartbeats 2000000 in
theorem vday_any (n : Int) (w : World) : Calls Try.prog 42 #[.int .i64 n] w fun e w' => e = .returned (.bool (inG n 0 292193)) ∧ w = w' := by
  by_cases h : 0 ≤ n
  · by_cases g : n ≤ 292193
    · go_enter Try.func42, Try.ntmps42
      go_wp2
      go_ret
      exact ⟨by simp [inG, h, g], rfl⟩
    · have g' : 292193 < n := by omega
      go_enter Try.func42, Try.ntmps42
      go_wp2
      go_ret
      exact ⟨by simp [inG, g'], rfl⟩
  · have h' : n < 0 := by omega
    go_enter Try.func42, Try.ntmps42
    go_wp2
    go_ret
    exact ⟨by simp [inG]; omega, rfl⟩
set_option maxHeartbeats 4000000 in
theorem acheck_large (a : Option Addr) (l : List Mv) (cap : Nat) (w : World) (h : 40 < l.length) (hn : l.length ≤ maxLen) :
    Calls Try.prog 18 #[.slice a l.length cap] w fun e w' => e = .returned (.int .i64 (itE l)) ∧ Kept w w' := by
  have E : itE l = 2 := by unfold itE; rw [if_pos h]
  rw [E]
  unfold maxLen at hn
  go_enter Try.func18, Try.ntmps18
  go_wp2
  go_ret
  exact ⟨rfl, Kept.refl _⟩
set_option maxHeartbeats 4000000 in
theorem acheck_in (a : Option Addr) (l : List Mv) (cap : Nat) (w : World) (h : l.length ≤ 40) (hA : JArg eP w a l) :
    Calls Try.prog 18 #[.slice a l.length cap] w fun e w' => e = .returned (.int .i64 (itE l)) ∧ Kept w w' := by
  have HA := Lib.hid hA
  have SE := Lib.hid (show itE l = if l.all itB = true then 0 else 1 by unfold itE; rw [if_neg (by omega)])
  clear hA
  go_enter Try.func18, Try.ntmps18
  go_wp2
  go_loopw [10] (fun i wr => ∃ (k : Nat), k ≤ l.length ∧ i = .int .i64 k ∧ Hid ((l.take k).all itB = true) ∧ Kept w wr) (fun i _ => l.length - (intOf i).toNat)
  case atStart => exact ⟨0, Nat.zero_le _, rfl, Lib.hid rfl, Kept.refl _⟩
  case round =>
    obtain ⟨k, hk, rfl, HE, hK⟩ := hrel
    by_cases hlt : k < l.length
    · obtain ⟨p, off, rfl, hR⟩ := HA.out.at hlt
      have hR := hR.later hK
      have c0 := hR.c0 k hlt
      have c1 := hR.c1 k hlt
      have plt := hR.lt
      have AT := Lib.hid (fun b => all_take (P := itB) hlt HE.out b)
      have NO := Lib.hid (fun (b : itB l[k] = false) => show itE l = 1 from by
        rw [SE.out, if_neg]
        intro c
        rw [List.all_eq_true] at c
        rw [c _ (List.getElem_mem hlt)] at b
        cases b)
      clear hR
      generalize l[k] = x at *
      have kA := hK.alloc (.cells #[.int .i64 x.1, .int .i64 x.2] 31)
      by_cases r1 : 0 ≤ x.1 ∧ x.1 ≤ 292193
      · have I1 := Lib.hid (inG_yes r1.1 r1.2)
        by_cases r2 : 1 ≤ x.2
        · by_cases r3 : x.2 ≤ 1000000000000
          · have OK := Lib.hid (AT.out (itB_iff.2 ⟨r1.1, r1.2, r2, r3⟩))
            clear hK r1
            go_wp2_with fail
            refine (vday_any _ _).mono ?_
            rintro e w1 ⟨rfl, rfl⟩
            rw [I1.out]
            go_wp2
            go_roundw
            case rel => exact ⟨k + 1, by omega, by go_num, OK, kA⟩
            case measure => simp [intOf]; omega
          · have HX := Lib.hid (NO.out (by cases e : itB x; rfl; exact absurd (itB_iff.1 e).2.2.2 r3))
            have r4 : (1000000000000 : Int) < x.2 := by omega
            clear hK r1 r3
            go_wp2_with fail
            refine (vday_any _ _).mono ?_
            rintro e w1 ⟨rfl, rfl⟩
            rw [I1.out]
            go_wp2
            go_ret
            exact ⟨ret_int HX.out.symm, kA⟩
        · have HX := Lib.hid (NO.out (by cases e : itB x; rfl; exact absurd (itB_iff.1 e).2.2.1 r2))
          have r4 : x.2 < 1 := by omega
          clear hK r1 r2
          go_wp2_with fail
          refine (vday_any _ _).mono ?_
          rintro e w1 ⟨rfl, rfl⟩
          rw [I1.out]
          go_wp2
          go_ret
          exact ⟨ret_int HX.out.symm, kA⟩
      · have I1 := Lib.hid (inG_no r1)
        have HX := Lib.hid (NO.out (by cases e : itB x; rfl; exact absurd ⟨(itB_iff.1 e).1, (itB_iff.1 e).2.1⟩ r1))
        clear hK r1
        go_wp2_with fail
        refine (vday_any _ _).mono ?_
        rintro e w1 ⟨rfl, rfl⟩
        rw [I1.out]
        go_wp2
        go_ret
        exact ⟨ret_int HX.out.symm, kA⟩
    · obtain rfl : k = l.length := by omega
      have Z := Lib.hid (show itE l = 0 by
        have := HE.out
        rw [List.take_length] at this
        rw [SE.out, if_pos this])
      clear hlt HE
      go_wp2
      go_ret
      exact ⟨ret_int Z.out.symm, hK⟩
theorem acheck_any (a : Option Addr) (l : List Mv) (cap : Nat) (w : World) (hn : l.length ≤ maxLen) (hA : JArg eP w a l) :
    Calls Try.prog 18 #[.slice a l.length cap] w fun e w' => e = .returned (.int .i64 (itE l)) ∧ Kept w w' := by
  by_cases h : 40 < l.length
  · exact acheck_large a l cap w h hn
  · exact acheck_in a l cap w (by omega) hA
end Go.Proofs.Ytdgiljndoeldcaa
