/-
  The law MoneyBack returns true: what a tax is added to comes back when it is taken out, of the nearest ways. No condition.
-/
import Derived.Test.YtpkdknddncnceabMWalkA
namespace Go.Proofs.Ytpkdknddncnceab
open Go.RowKit

theorem wiE_ok {a r way : Int} (h : wiE a r way = 0) : okM a r way = true ∧ amB (a + shV a r way) = true ∧ wi0 a r way = a + shV a r way ∧ wi1 a r way = shV a r way := by
  have e0 : wi0 a r way = a + shV a r way := by unfold wi0; rw [if_pos h]
  have e1 : wi1 a r way = shV a r way := by unfold wi1; rw [if_pos h]
  unfold wiE at h
  split at h
  · split at h
    · next h1 h2 => exact ⟨h1, h2, e0, e1⟩
    · omega
  · omega
theorem wiE_no {a r way : Int} (h : wiE a r way ≠ 0) : wi0 a r way = 0 ∧ wi1 a r way = 0 := by
  unfold wi0 wi1; rw [if_neg h, if_neg h]; exact ⟨rfl, rfl⟩
set_option maxRecDepth 100000 in
set_option maxHeartbeats 4000000 in
theorem moneyBack_walk (net rate way : Int) (w : World) :
    Calls Try.prog 4 #[.int .i64 net, .int .i64 rate, .int .i64 way] w fun e w' => e = .returned (.bool true) ∧ Kept w w' := by
  have T0 := Lib.hid (show wi0 100 190000 2 = 119 by decide)
  have T1 := Lib.hid (show wi1 100 190000 2 = 19 by decide)
  have TE := Lib.hid (show wiE 100 190000 2 = 0 by decide)
  have V := Lib.hid (show inV 119 190000 2 = 100 by decide)
  go_enter Try.func4, Try.ntmps4
  go_wp2_with fail
  refine (with_any _ _ _ _).mono ?_
  rintro e w1 ⟨rfl, hK1⟩
  rw [T0.out, T1.out, TE.out]
  go_wp2_with fail
  refine (within_yes _ _ _ _ (by decide)).mono ?_
  rintro e w2 ⟨rfl, hK⟩
  rw [V.out]
  have hK2 := hK1.trans hK
  clear hK1 hK T0 T1 TE V
  go_wp2_with fail
  refine (within_any _ _ _ (by omega) (by omega)).mono ?_
  rintro e w3 ⟨i, i0, i1, rfl, rfl⟩
  have hK3 := hK2.alloc (.cells #[.int .i64 2, .int .i64 3] 3)
  clear hK2
  rcases (show i = 0 ∨ i = 1 by omega) with rfl | rfl
  · by_cases h : wiE net rate 2 = 0
    · obtain ⟨o1, o2, e0, e1⟩ := wiE_ok h
      have E0 := Lib.hid e0
      have E1 := Lib.hid e1
      have EE := Lib.hid h
      obtain ⟨⟨n0, n1⟩, ⟨r0, r1⟩, w0, w3⟩ := (okM_iff _ _ _).1 o1
      have g := (am_iff _).1 o2
      have OK := Lib.hid ((okM_iff (net + shV net rate 2) rate 2).2 ⟨g, ⟨r0, r1⟩, w0, w3⟩)
      have BK := Lib.hid (show inV (net + shV net rate 2) rate 2 = net from tax_back net rate 2 r0 (.inl rfl))
      have sb := shV_bd o1
      clear o1 o2 e0 e1 h
      go_wp2_with fail
      refine (with_any _ _ _ _).mono ?_
      rintro e w4 ⟨rfl, hK⟩
      rw [E0.out, E1.out, EE.out]
      have hK4 := hK3.trans hK
      clear hK3 hK E0 E1 EE
      generalize shV net rate 2 = s at *
      go_wp2_with fail
      refine (within_yes _ _ _ _ OK.out).mono ?_
      rintro e w5 ⟨rfl, hK⟩
      rw [BK.out]
      have hK5 := hK4.trans hK
      clear hK4 hK
      have q1 : (net == net) = true := by simp
      have q2 : (net + s - net == s) = true := by rw [beq_iff_eq]; omega
      go_wp2
      go_ret
      exact ⟨ret_bool (by simp), hK5⟩
    · have Z := wiE_no h
      have Z0 := Lib.hid Z.1
      have Z1 := Lib.hid Z.2
      have hb : (wiE net rate 2 != 0) = true := by rw [bne_iff_ne]; exact h
      clear Z h
      go_wp2_with fail
      refine (with_any _ _ _ _).mono ?_
      rintro e w4 ⟨rfl, hK⟩
      rw [Z0.out, Z1.out]
      have hK4 := hK3.trans hK
      generalize wiE net rate 2 = E at *
      go_wp2
      go_ret
      exact ⟨rfl, hK4⟩
  · by_cases h : wiE net rate 3 = 0
    · obtain ⟨o1, o2, e0, e1⟩ := wiE_ok h
      have E0 := Lib.hid e0
      have E1 := Lib.hid e1
      have EE := Lib.hid h
      obtain ⟨⟨n0, n1⟩, ⟨r0, r1⟩, w0, w3⟩ := (okM_iff _ _ _).1 o1
      have g := (am_iff _).1 o2
      have OK := Lib.hid ((okM_iff (net + shV net rate 3) rate 3).2 ⟨g, ⟨r0, r1⟩, w0, w3⟩)
      have BK := Lib.hid (show inV (net + shV net rate 3) rate 3 = net from tax_back net rate 3 r0 (.inr rfl))
      have sb := shV_bd o1
      clear o1 o2 e0 e1 h
      go_wp2_with fail
      refine (with_any _ _ _ _).mono ?_
      rintro e w4 ⟨rfl, hK⟩
      rw [E0.out, E1.out, EE.out]
      have hK4 := hK3.trans hK
      clear hK3 hK E0 E1 EE
      generalize shV net rate 3 = s at *
      go_wp2_with fail
      refine (within_yes _ _ _ _ OK.out).mono ?_
      rintro e w5 ⟨rfl, hK⟩
      rw [BK.out]
      have hK5 := hK4.trans hK
      clear hK4 hK
      have q1 : (net == net) = true := by simp
      have q2 : (net + s - net == s) = true := by rw [beq_iff_eq]; omega
      go_wp2
      go_ret
      exact ⟨ret_bool (by simp), hK5⟩
    · have Z := wiE_no h
      have Z0 := Lib.hid Z.1
      have Z1 := Lib.hid Z.2
      have hb : (wiE net rate 3 != 0) = true := by rw [bne_iff_ne]; exact h
      clear Z h
      go_wp2_with fail
      refine (with_any _ _ _ _).mono ?_
      rintro e w4 ⟨rfl, hK⟩
      rw [Z0.out, Z1.out]
      have hK4 := hK3.trans hK
      generalize wiE net rate 3 = E at *
      go_wp2
      go_ret
      exact ⟨rfl, hK4⟩

end Go.Proofs.Ytpkdknddncnceab
