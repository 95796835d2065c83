/-
  The law MoneyEnds returns true: of a rate of nothing there is nothing, of a whole one all; down and up are the other way round below 0. No condition.
-/
import Derived.Test.YtpkdknddncnceabMWalkB
namespace Go.Proofs.Ytpkdknddncnceab
open Go.RowKit

set_option maxRecDepth 100000 in
set_option maxHeartbeats 4000000 in
theorem moneyEnds_walk (A R W : Int) (w : World) :
    Calls Try.prog 7 #[.int .i64 A, .int .i64 R, .int .i64 W] w fun e w' => e = .returned (.bool true) ∧ Kept w w' := by
  have T := Lib.hid (show shV 7 1000000 0 = 7 by decide)
  go_enter Try.func7, Try.ntmps7
  go_wp2_with fail
  refine (share_yes _ _ _ _ (by decide)).mono ?_
  rintro e w1 ⟨rfl, hK1⟩
  rw [T.out]
  clear T
  go_wp2_with fail
  refine (within_anyM _ _ _ (by omega) (by omega)).mono ?_
  rintro e w2 ⟨a, a0, a1, rfl, rfl⟩
  go_wp2_with fail
  refine (within_any _ _ _ (by omega) (by omega)).mono ?_
  rintro e w2 ⟨r, r0, r1, rfl, rfl⟩
  go_wp2_with fail
  refine (within_any _ _ _ (by omega) (by omega)).mono ?_
  rintro e w2 ⟨y, y0, y1, rfl, rfl⟩
  obtain ⟨p, hp⟩ : ∃ p, p = a - 1000000000000 := ⟨_, rfl⟩
  rw [← hp]
  have p0 : -1000000000000 ≤ p := by omega
  have p1 : p ≤ 1000000000000 := by omega
  clear hp a0 a1
  have O1 := Lib.hid ((okM_iff p 0 y).2 ⟨by omega, by omega, by omega, by omega⟩)
  have O2 := Lib.hid ((okM_iff p 1000000 y).2 ⟨by omega, by omega, by omega, by omega⟩)
  have O3 := Lib.hid ((okM_iff p r 0).2 ⟨by omega, by omega, by omega, by omega⟩)
  have O4 := Lib.hid ((okM_iff (-p) r 1).2 ⟨by omega, by omega, by omega, by omega⟩)
  have E1 := Lib.hid (show shV p 0 y = 0 by unfold shV; have := rnd_whole 0 1000000 y (by omega) y0 (by omega); simpa using this)
  have E2 := Lib.hid (show shV p 1000000 y = p from rnd_whole p 1000000 y (by omega) y0 (by omega))
  have E4 := Lib.hid (show shV (-p) r 1 = -(shV p r 0) by unfold shV; rw [Int.neg_mul]; exact rnd_up_down _ _ (by omega))
  have sb := shV_bd O3.out
  go_wp2_with fail
  refine (share_yes _ _ _ _ O1.out).mono ?_
  rintro e w2 ⟨rfl, hK⟩
  rw [E1.out]
  have hK2 := hK1.trans hK
  clear hK1 hK
  go_wp2_with fail
  refine (share_yes _ _ _ _ O2.out).mono ?_
  rintro e w3 ⟨rfl, hK⟩
  rw [E2.out]
  have hK3 := hK2.trans hK
  clear hK2 hK
  go_wp2_with fail
  refine (share_yes _ _ _ _ O3.out).mono ?_
  rintro e w4 ⟨rfl, hK⟩
  have hK4 := hK3.trans hK
  clear hK3 hK
  go_wp2_with fail
  refine (share_yes _ _ _ _ O4.out).mono ?_
  rintro e w5 ⟨rfl, hK⟩
  rw [E4.out]
  have hK5 := hK4.trans hK
  clear hK4 hK
  generalize shV p r 0 = s at *
  have q1 : (p == p) = true := by simp
  have q2 : (s == - -s) = true := by rw [beq_iff_eq]; omega
  go_wp2
  go_ret
  exact ⟨ret_bool (by simp), hK5⟩

end Go.Proofs.Ytpkdknddncnceab
