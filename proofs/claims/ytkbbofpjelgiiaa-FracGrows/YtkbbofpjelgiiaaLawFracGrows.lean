/-
  The law FracGrows returns true: what is no less is rounded to no less, by each way. No condition.
-/
import Derived.Test.YtkbbofpjelgiiaaFWalkD
import Derived.Test.YtkbbofpjelgiiaaFMathB
namespace Go.Proofs.Ytkbbofpjelgiiaa
open Go.RowKit

set_option maxHeartbeats 4000000 in
theorem fracGrows_walk (a b c d v : Int) (w : World) :
    Calls Try.prog 9 #[fr2 a b, fr2 c d, .int .i64 v] w fun e w' => e = .returned (.bool true) ∧ Kept w w' := by
  have H1 := Lib.hid (show rnd 7 2 1 = 4 by decide)
  go_enter Try.func9, Try.ntmps9
  go_wp2_with fail
  obtain ⟨hA, hB, hK⟩ := two_new w a b c d 23
  generalize ((w.alloc (.cells #[.int .i64 a, .int .i64 b] 23)).alloc (.cells #[.int .i64 c, .int .i64 d] 23)) = W at *
  refine (round_yes _ _ _ _ (by decide) (by omega) (by omega)).mono ?_
  rintro e w1 ⟨rfl, hk1⟩
  rw [H1.out]
  have hA1 := hA.later hk1
  have hB1 := hB.later hk1
  have hK1 := hK.trans hk1
  clear hA hB hK hk1 H1
  go_wp2_with fail
  refine (within_any _ _ _ (by omega) (by omega)).mono ?_
  rintro e w2 ⟨r, r0, r1, rfl, rfl⟩
  obtain ⟨lt, c0, c1, f0, f1⟩ := id hA1
  obtain ⟨lt', d0, d1, f0', f1'⟩ := id hB1
  go_wp2_with fail
  refine (cmp_any _ _ _ _ _).mono ?_
  rintro e w2 ⟨rfl, hk2⟩
  have hA2 := hA1.later hk2
  have hB2 := hB1.later hk2
  have hK2 := hK1.trans hk2
  clear lt c0 c1 f0 f1 lt' d0 d1 f0' f1' hA1 hB1 hK1 hk2
  obtain ⟨lt, c0, c1, f0, f1⟩ := id hA2
  obtain ⟨lt', d0, d1, f0', f1'⟩ := id hB2
  generalize hX : (if chk2 a b c d = 0 then cmpV (a * d) (c * b) else 0) = X
  have HX := Lib.hid hX
  clear hX
  go_wp2_with fail
  refine (round_any _ _ _ _ r0 (by omega)).mono ?_
  rintro e w3 ⟨rfl, hk3⟩
  have hB3 := hB2.later hk3
  have hK3 := hK2.trans hk3
  clear lt c0 c1 f0 f1 lt' d0 d1 f0' f1' hA2 hB2 hK2 hk3
  obtain ⟨lt', d0, d1, f0', f1'⟩ := id hB3
  generalize hY : (if okB a b = true then rnd a b r else 0) = Y
  have HY := Lib.hid hY
  clear hY
  go_wp2_with fail
  refine (round_any _ _ _ _ r0 (by omega)).mono ?_
  rintro e w4 ⟨rfl, hk4⟩
  have hK4 := hK3.trans hk4
  clear lt' d0 d1 f0' f1' hB3 hK3 hk4
  generalize hZ : (if okB c d = true then rnd c d r else 0) = Z
  have HZ := Lib.hid hZ
  clear hZ
  cases ho : okB a b
  · have hn : (chk2 a b c d != 0) = true := by simpa using chk2_ne (c := c) (d := d) (.inl ho)
    clear ho
    go_wp2
    go_ret
    exact ⟨rfl, hK4⟩
  · cases hp : okB c d
    · have hn : (chk2 a b c d != 0) = true := by simpa using chk2_ne (a := a) (b := b) (.inr hp)
      clear ho hp
      go_wp2
      go_ret
      exact ⟨rfl, hK4⟩
    · have k2 := (chk2_iff a b c d).2 ⟨ho, hp⟩
      have hx := HX.out
      rw [if_pos k2] at hx
      have hy := HY.out
      rw [if_pos ho] at hy
      have hz := HZ.out
      rw [if_pos hp] at hz
      rw [k2, chk_ok ho, chk_ok hp]
      obtain ⟨h1, h2, h3, h4⟩ := (ok_iff a b).1 ho
      obtain ⟨h5, h6, h7, h8⟩ := (ok_iff c d).1 hp
      have M := Lib.hid (show 0 < X ∨ Y ≤ Z by
        by_cases c0 : c * b < a * d
        · left; rw [← hx, cmpV_gt c0]; omega
        · right; rw [← hy, ← hz]; exact rnd_mono a b c d r h3 h7 (by omega) r0 (by omega))
      clear ho hp k2 hx hy hz HX HY HZ
      by_cases u : 0 < X
      · go_wp2
        go_ret
        exact ⟨rfl, hK4⟩
      · have ub : decide (0 < X) = false := by simpa using u
        have v1 : Y ≤ Z := by have := M.out; omega
        clear u
        go_wp2
        go_ret
        exact ⟨rfl, hK4⟩

end Go.Proofs.Ytkbbofpjelgiiaa
