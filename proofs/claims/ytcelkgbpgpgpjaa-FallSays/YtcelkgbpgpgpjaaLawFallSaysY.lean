/-
  The law FallSays where Falling does not err. Condition: the row's length is within its capacity.
-/
import Derived.Test.YtcelkgbpgpgpjaaNWalkD
namespace Go.Proofs.Ytcelkgbpgpgpjaa
open Go.RowKit

theorem four_boxes (w : World) (c r total : Int) (v : Value) :
    BoxU ((((w.alloc (.cells #[.int .i64 c] 3)).alloc (.cells #[.int .i64 r] 3)).alloc (.cells #[.int .i64 total] 3)).alloc (.cells #[v] 22)) (w.heap.size + 3) (w.heap.size + 2) w.heap.size (w.heap.size + 1) v total c r :=
  ⟨SlBox.new (by simp), (SlBox.new (by simp)).later ((Kept.refl _).alloc _), (SlBox.new rfl).later ((((Kept.refl _).alloc _).alloc _).alloc _), (SlBox.new (by simp)).later (((Kept.refl _).alloc _).alloc _)⟩
theorem rate_in (x : Int) : inB x 0 1000000 = rtB x := rfl
/-- Each way to an error of Units. -/
theorem unE_case (c r total : Int) (n : Nat) (g : Nat → Int) :
    (okA c r 1 = false ∧ unE c r total n g = 1) ∨ (okA c r 1 = true ∧ total < 1 ∧ unE c r total n g = 1) ∨ (okA c r 1 = true ∧ 1 ≤ total ∧ 1000000 < total ∧ unE c r total n g = 1) ∨
    (okA c r 1 = true ∧ 1 ≤ total ∧ total ≤ 1000000 ∧ 40 < n ∧ unE c r total n g = 2) ∨ (okA c r 1 = true ∧ 1 ≤ total ∧ total ≤ 1000000 ∧ n ≤ 40 ∧ okWts g n = false ∧ unE c r total n g = 1) ∨
    (okA c r 1 = true ∧ 1 ≤ total ∧ total ≤ 1000000 ∧ n ≤ 40 ∧ okWts g n = true ∧ unE c r total n g = 0) := by
  unfold unE
  cases a : okA c r 1
  · left; exact ⟨rfl, rfl⟩
  · right
    rw [if_pos rfl]
    by_cases t : total < 1
    · left; exact ⟨rfl, t, by rw [if_pos (.inl t)]⟩
    · right
      by_cases t2 : 1000000 < total
      · left; exact ⟨rfl, by omega, t2, by rw [if_pos (.inr t2)]⟩
      · right
        rw [if_neg (by omega)]
        by_cases n4 : 40 < n
        · left; exact ⟨rfl, by omega, by omega, n4, by rw [if_pos n4]⟩
        · right
          rw [if_neg n4]
          cases o : okWts g n
          · left; exact ⟨rfl, by omega, by omega, by omega, rfl, rfl⟩
          · right; exact ⟨rfl, by omega, by omega, by omega, rfl, rfl⟩
set_option maxRecDepth 100000 in
set_option maxHeartbeats 4000000 in
theorem fallSays_yes1 (c r rate : Int) (n1 : Nat) (total : Int) (a : Option Addr) (n cap : Nat) (g : Nat → Int) (w : World) (hn : n ≤ 4000000000000000000) (hA : Arg w a n g) (ho : okA c r n1 = true) (hr : rtB rate = true) (u1 : okA c r 1 = false) (ue : unE c r total n g = 1) :
    Calls Try.prog 3 #[.int .i64 c, .int .i64 r, .int .i64 rate, .int .i64 (n1 : Int), .int .i64 total, .slice a n cap] w fun e w' => e = .returned (.bool true) ∧ Kept w w' := by
  obtain ⟨h1, h2, h3, h4, h5, h6⟩ := (okA_iff c r n1).1 ho
  have EO := Lib.hid (erA_yes ho)
  obtain ⟨r0, r1⟩ := (rtB_iff rate).1 hr
  have HR := Lib.hid hr
  have HO := Lib.hid ho
  have E1 := Lib.hid (erA_no u1)
  have UE := Lib.hid ue
  have hB := four_boxes w c r total (.slice a n cap)
  have hK := (((Kept.refl w).alloc (.cells #[.int .i64 c] 3)).alloc (.cells #[.int .i64 r] 3)).alloc (.cells #[.int .i64 total] 3)
  replace hK := hK.alloc (.cells #[.slice a n cap] 22)
  have HA := Lib.hid (hA.later hK)
  clear ho u1 ue hA hr
  go_enter Try.func3, Try.ntmps3
  go_wp2_with fail
  refine (falling_yes _ _ _ _ _ HO.out HR.out).mono ?_
  rintro e w1 ⟨p, hp, rfl, hX, hK1⟩
  have HA1 := Lib.hid (HA.out.later hK1)
  replace hB := hB.later hK1
  replace hK := hK.trans hK1
  clear HA hK1 hp
  have e0 := hB.u.cell
  have e1 := hB.t.cell
  have e2 := hB.c.cell
  have e3 := hB.r.cell
  go_wp2_with fail
  refine (units_no _ _ _ _ n _ g _ (by omega) (by rw [UE.out]; omega) HA1.out).mono ?_
  rintro e w2 ⟨rfl, hK2⟩
  rw [UE.out]
  have HA2 := Lib.hid (HA1.out.later hK2)
  replace hB := hB.later hK2
  replace hK := hK.trans hK2
  replace hX := hX.later hK2
  clear HA1 hK2 e0 e1 e2 e3
  have e0 := hB.u.cell
  have e1 := hB.t.cell
  have e2 := hB.c.cell
  have e3 := hB.r.cell
  go_wp2_with fail
  refine (roff_any _ _ _ _).mono ?_
  rintro e w3 ⟨rfl, rfl⟩
  rw [EO.out]
  go_wp2_with fail
  refine (rrate_any _ _).mono ?_
  rintro e w3 ⟨rfl, rfl⟩
  rw [rate_in, HR.out]
  go_wp2_with fail
  refine (rfalling_any r rate n1 h3 r0 r1 c _ h4 h2 (by omega)).mono ?_
  rintro e w3 ⟨v, rfl, hG, hK3⟩
  obtain ⟨ad, cp, rfl, hAr⟩ := hG.arg
  obtain ⟨p2, off2, rfl, hR2⟩ := hAr.at (by omega)
  replace hX := hX.later hK3
  go_wp2_with fail
  refine (equal_yes (flP c r rate n1) _ _ _ _ _ _ n1 _ (by omega) hX.rd hR2).mono ?_
  rintro e w4 ⟨rfl, hd⟩
  have hK4 := hK3.trans hd.kept
  have HA3 := Lib.hid (HA2.out.later hK4)
  replace hB := hB.later hK4
  replace hK := hK.trans hK4
  clear HA2 hK3 hK4 hd hX hR2 hAr hG e0 e1 e2 e3
  have e0 := hB.u.cell
  have e1 := hB.t.cell
  have e2 := hB.c.cell
  have e3 := hB.r.cell
  go_wp2_with fail
  refine (roff_any _ _ _ _).mono ?_
  rintro e w5 ⟨rfl, rfl⟩
  rw [E1.out]
  go_wp2
  go_ret
  exact ⟨ret_bool (by simp), hK⟩
set_option maxRecDepth 100000 in
set_option maxHeartbeats 4000000 in
theorem fallSays_yes2 (c r rate : Int) (n1 : Nat) (total : Int) (a : Option Addr) (n cap : Nat) (g : Nat → Int) (w : World) (hn : n ≤ 4000000000000000000) (hA : Arg w a n g) (ho : okA c r n1 = true) (hr : rtB rate = true) (u1 : okA c r 1 = true) (u2 : total < 1) (ue : unE c r total n g = 1) :
    Calls Try.prog 3 #[.int .i64 c, .int .i64 r, .int .i64 rate, .int .i64 (n1 : Int), .int .i64 total, .slice a n cap] w fun e w' => e = .returned (.bool true) ∧ Kept w w' := by
  obtain ⟨h1, h2, h3, h4, h5, h6⟩ := (okA_iff c r n1).1 ho
  have EO := Lib.hid (erA_yes ho)
  obtain ⟨r0, r1⟩ := (rtB_iff rate).1 hr
  have HR := Lib.hid hr
  have HO := Lib.hid ho
  have E1 := Lib.hid (erA_yes u1)
  have UE := Lib.hid ue
  have hB := four_boxes w c r total (.slice a n cap)
  have hK := (((Kept.refl w).alloc (.cells #[.int .i64 c] 3)).alloc (.cells #[.int .i64 r] 3)).alloc (.cells #[.int .i64 total] 3)
  replace hK := hK.alloc (.cells #[.slice a n cap] 22)
  have HA := Lib.hid (hA.later hK)
  clear ho u1 ue hA hr
  go_enter Try.func3, Try.ntmps3
  go_wp2_with fail
  refine (falling_yes _ _ _ _ _ HO.out HR.out).mono ?_
  rintro e w1 ⟨p, hp, rfl, hX, hK1⟩
  have HA1 := Lib.hid (HA.out.later hK1)
  replace hB := hB.later hK1
  replace hK := hK.trans hK1
  clear HA hK1 hp
  have e0 := hB.u.cell
  have e1 := hB.t.cell
  have e2 := hB.c.cell
  have e3 := hB.r.cell
  go_wp2_with fail
  refine (units_no _ _ _ _ n _ g _ (by omega) (by rw [UE.out]; omega) HA1.out).mono ?_
  rintro e w2 ⟨rfl, hK2⟩
  rw [UE.out]
  have HA2 := Lib.hid (HA1.out.later hK2)
  replace hB := hB.later hK2
  replace hK := hK.trans hK2
  replace hX := hX.later hK2
  clear HA1 hK2 e0 e1 e2 e3
  have e0 := hB.u.cell
  have e1 := hB.t.cell
  have e2 := hB.c.cell
  have e3 := hB.r.cell
  go_wp2_with fail
  refine (roff_any _ _ _ _).mono ?_
  rintro e w3 ⟨rfl, rfl⟩
  rw [EO.out]
  go_wp2_with fail
  refine (rrate_any _ _).mono ?_
  rintro e w3 ⟨rfl, rfl⟩
  rw [rate_in, HR.out]
  go_wp2_with fail
  refine (rfalling_any r rate n1 h3 r0 r1 c _ h4 h2 (by omega)).mono ?_
  rintro e w3 ⟨v, rfl, hG, hK3⟩
  obtain ⟨ad, cp, rfl, hAr⟩ := hG.arg
  obtain ⟨p2, off2, rfl, hR2⟩ := hAr.at (by omega)
  replace hX := hX.later hK3
  go_wp2_with fail
  refine (equal_yes (flP c r rate n1) _ _ _ _ _ _ n1 _ (by omega) hX.rd hR2).mono ?_
  rintro e w4 ⟨rfl, hd⟩
  have hK4 := hK3.trans hd.kept
  have HA3 := Lib.hid (HA2.out.later hK4)
  replace hB := hB.later hK4
  replace hK := hK.trans hK4
  clear HA2 hK3 hK4 hd hX hR2 hAr hG e0 e1 e2 e3
  have e0 := hB.u.cell
  have e1 := hB.t.cell
  have e2 := hB.c.cell
  have e3 := hB.r.cell
  go_wp2_with fail
  refine (roff_any _ _ _ _).mono ?_
  rintro e w5 ⟨rfl, rfl⟩
  rw [E1.out]
  go_wp2
  go_ret
  exact ⟨ret_bool (by simp), hK⟩
set_option maxRecDepth 100000 in
set_option maxHeartbeats 4000000 in
theorem fallSays_yes3 (c r rate : Int) (n1 : Nat) (total : Int) (a : Option Addr) (n cap : Nat) (g : Nat → Int) (w : World) (hn : n ≤ 4000000000000000000) (hA : Arg w a n g) (ho : okA c r n1 = true) (hr : rtB rate = true) (u1 : okA c r 1 = true) (u2 : 1 ≤ total) (u3 : 1000000 < total) (ue : unE c r total n g = 1) :
    Calls Try.prog 3 #[.int .i64 c, .int .i64 r, .int .i64 rate, .int .i64 (n1 : Int), .int .i64 total, .slice a n cap] w fun e w' => e = .returned (.bool true) ∧ Kept w w' := by
  obtain ⟨h1, h2, h3, h4, h5, h6⟩ := (okA_iff c r n1).1 ho
  have EO := Lib.hid (erA_yes ho)
  obtain ⟨r0, r1⟩ := (rtB_iff rate).1 hr
  have HR := Lib.hid hr
  have HO := Lib.hid ho
  have E1 := Lib.hid (erA_yes u1)
  have UE := Lib.hid ue
  have hB := four_boxes w c r total (.slice a n cap)
  have hK := (((Kept.refl w).alloc (.cells #[.int .i64 c] 3)).alloc (.cells #[.int .i64 r] 3)).alloc (.cells #[.int .i64 total] 3)
  replace hK := hK.alloc (.cells #[.slice a n cap] 22)
  have HA := Lib.hid (hA.later hK)
  clear ho u1 ue hA hr
  go_enter Try.func3, Try.ntmps3
  go_wp2_with fail
  refine (falling_yes _ _ _ _ _ HO.out HR.out).mono ?_
  rintro e w1 ⟨p, hp, rfl, hX, hK1⟩
  have HA1 := Lib.hid (HA.out.later hK1)
  replace hB := hB.later hK1
  replace hK := hK.trans hK1
  clear HA hK1 hp
  have e0 := hB.u.cell
  have e1 := hB.t.cell
  have e2 := hB.c.cell
  have e3 := hB.r.cell
  go_wp2_with fail
  refine (units_no _ _ _ _ n _ g _ (by omega) (by rw [UE.out]; omega) HA1.out).mono ?_
  rintro e w2 ⟨rfl, hK2⟩
  rw [UE.out]
  have HA2 := Lib.hid (HA1.out.later hK2)
  replace hB := hB.later hK2
  replace hK := hK.trans hK2
  replace hX := hX.later hK2
  clear HA1 hK2 e0 e1 e2 e3
  have e0 := hB.u.cell
  have e1 := hB.t.cell
  have e2 := hB.c.cell
  have e3 := hB.r.cell
  go_wp2_with fail
  refine (roff_any _ _ _ _).mono ?_
  rintro e w3 ⟨rfl, rfl⟩
  rw [EO.out]
  go_wp2_with fail
  refine (rrate_any _ _).mono ?_
  rintro e w3 ⟨rfl, rfl⟩
  rw [rate_in, HR.out]
  go_wp2_with fail
  refine (rfalling_any r rate n1 h3 r0 r1 c _ h4 h2 (by omega)).mono ?_
  rintro e w3 ⟨v, rfl, hG, hK3⟩
  obtain ⟨ad, cp, rfl, hAr⟩ := hG.arg
  obtain ⟨p2, off2, rfl, hR2⟩ := hAr.at (by omega)
  replace hX := hX.later hK3
  go_wp2_with fail
  refine (equal_yes (flP c r rate n1) _ _ _ _ _ _ n1 _ (by omega) hX.rd hR2).mono ?_
  rintro e w4 ⟨rfl, hd⟩
  have hK4 := hK3.trans hd.kept
  have HA3 := Lib.hid (HA2.out.later hK4)
  replace hB := hB.later hK4
  replace hK := hK.trans hK4
  clear HA2 hK3 hK4 hd hX hR2 hAr hG e0 e1 e2 e3
  have e0 := hB.u.cell
  have e1 := hB.t.cell
  have e2 := hB.c.cell
  have e3 := hB.r.cell
  go_wp2_with fail
  refine (roff_any _ _ _ _).mono ?_
  rintro e w5 ⟨rfl, rfl⟩
  rw [E1.out]
  go_wp2
  go_ret
  exact ⟨ret_bool (by simp), hK⟩
set_option maxRecDepth 100000 in
set_option maxHeartbeats 4000000 in
theorem fallSays_yes4 (c r rate : Int) (n1 : Nat) (total : Int) (a : Option Addr) (n cap : Nat) (g : Nat → Int) (w : World) (hn : n ≤ 4000000000000000000) (hA : Arg w a n g) (ho : okA c r n1 = true) (hr : rtB rate = true) (u1 : okA c r 1 = true) (u2 : 1 ≤ total) (u3 : total ≤ 1000000) (u4 : 40 < n) (ue : unE c r total n g = 2) :
    Calls Try.prog 3 #[.int .i64 c, .int .i64 r, .int .i64 rate, .int .i64 (n1 : Int), .int .i64 total, .slice a n cap] w fun e w' => e = .returned (.bool true) ∧ Kept w w' := by
  obtain ⟨h1, h2, h3, h4, h5, h6⟩ := (okA_iff c r n1).1 ho
  have EO := Lib.hid (erA_yes ho)
  obtain ⟨r0, r1⟩ := (rtB_iff rate).1 hr
  have HR := Lib.hid hr
  have HO := Lib.hid ho
  have E1 := Lib.hid (erA_yes u1)
  have UE := Lib.hid ue
  have n41 : decide ((40 : Int) < (n : Int)) = true := by simp; omega
  have hB := four_boxes w c r total (.slice a n cap)
  have hK := (((Kept.refl w).alloc (.cells #[.int .i64 c] 3)).alloc (.cells #[.int .i64 r] 3)).alloc (.cells #[.int .i64 total] 3)
  replace hK := hK.alloc (.cells #[.slice a n cap] 22)
  have HA := Lib.hid (hA.later hK)
  clear ho u1 ue hA hr
  go_enter Try.func3, Try.ntmps3
  go_wp2_with fail
  refine (falling_yes _ _ _ _ _ HO.out HR.out).mono ?_
  rintro e w1 ⟨p, hp, rfl, hX, hK1⟩
  have HA1 := Lib.hid (HA.out.later hK1)
  replace hB := hB.later hK1
  replace hK := hK.trans hK1
  clear HA hK1 hp
  have e0 := hB.u.cell
  have e1 := hB.t.cell
  have e2 := hB.c.cell
  have e3 := hB.r.cell
  go_wp2_with fail
  refine (units_no _ _ _ _ n _ g _ (by omega) (by rw [UE.out]; omega) HA1.out).mono ?_
  rintro e w2 ⟨rfl, hK2⟩
  rw [UE.out]
  have HA2 := Lib.hid (HA1.out.later hK2)
  replace hB := hB.later hK2
  replace hK := hK.trans hK2
  replace hX := hX.later hK2
  clear HA1 hK2 e0 e1 e2 e3
  have e0 := hB.u.cell
  have e1 := hB.t.cell
  have e2 := hB.c.cell
  have e3 := hB.r.cell
  go_wp2_with fail
  refine (roff_any _ _ _ _).mono ?_
  rintro e w3 ⟨rfl, rfl⟩
  rw [EO.out]
  go_wp2_with fail
  refine (rrate_any _ _).mono ?_
  rintro e w3 ⟨rfl, rfl⟩
  rw [rate_in, HR.out]
  go_wp2_with fail
  refine (rfalling_any r rate n1 h3 r0 r1 c _ h4 h2 (by omega)).mono ?_
  rintro e w3 ⟨v, rfl, hG, hK3⟩
  obtain ⟨ad, cp, rfl, hAr⟩ := hG.arg
  obtain ⟨p2, off2, rfl, hR2⟩ := hAr.at (by omega)
  replace hX := hX.later hK3
  go_wp2_with fail
  refine (equal_yes (flP c r rate n1) _ _ _ _ _ _ n1 _ (by omega) hX.rd hR2).mono ?_
  rintro e w4 ⟨rfl, hd⟩
  have hK4 := hK3.trans hd.kept
  have HA3 := Lib.hid (HA2.out.later hK4)
  replace hB := hB.later hK4
  replace hK := hK.trans hK4
  clear HA2 hK3 hK4 hd hX hR2 hAr hG e0 e1 e2 e3
  have e0 := hB.u.cell
  have e1 := hB.t.cell
  have e2 := hB.c.cell
  have e3 := hB.r.cell
  go_wp2_with fail
  refine (roff_any _ _ _ _).mono ?_
  rintro e w5 ⟨rfl, rfl⟩
  rw [E1.out]
  go_wp2
  go_ret
  exact ⟨ret_bool (by simp), hK⟩
set_option maxRecDepth 100000 in
set_option maxHeartbeats 4000000 in
theorem fallSays_yes5 (c r rate : Int) (n1 : Nat) (total : Int) (a : Option Addr) (n cap : Nat) (g : Nat → Int) (w : World) (hn : n ≤ 4000000000000000000) (hA : Arg w a n g) (ho : okA c r n1 = true) (hr : rtB rate = true) (u1 : okA c r 1 = true) (u2 : 1 ≤ total) (u3 : total ≤ 1000000) (u4 : n ≤ 40) (u5 : okWts g n = false) (ue : unE c r total n g = 1) :
    Calls Try.prog 3 #[.int .i64 c, .int .i64 r, .int .i64 rate, .int .i64 (n1 : Int), .int .i64 total, .slice a n cap] w fun e w' => e = .returned (.bool true) ∧ Kept w w' := by
  obtain ⟨h1, h2, h3, h4, h5, h6⟩ := (okA_iff c r n1).1 ho
  have EO := Lib.hid (erA_yes ho)
  obtain ⟨r0, r1⟩ := (rtB_iff rate).1 hr
  have HR := Lib.hid hr
  have HO := Lib.hid ho
  have E1 := Lib.hid (erA_yes u1)
  have UE := Lib.hid ue
  have n41 : decide ((40 : Int) < (n : Int)) = false := by simp; omega
  have OW := Lib.hid u5
  have hB := four_boxes w c r total (.slice a n cap)
  have hK := (((Kept.refl w).alloc (.cells #[.int .i64 c] 3)).alloc (.cells #[.int .i64 r] 3)).alloc (.cells #[.int .i64 total] 3)
  replace hK := hK.alloc (.cells #[.slice a n cap] 22)
  have HA := Lib.hid (hA.later hK)
  clear ho u1 ue hA hr u5
  go_enter Try.func3, Try.ntmps3
  go_wp2_with fail
  refine (falling_yes _ _ _ _ _ HO.out HR.out).mono ?_
  rintro e w1 ⟨p, hp, rfl, hX, hK1⟩
  have HA1 := Lib.hid (HA.out.later hK1)
  replace hB := hB.later hK1
  replace hK := hK.trans hK1
  clear HA hK1 hp
  have e0 := hB.u.cell
  have e1 := hB.t.cell
  have e2 := hB.c.cell
  have e3 := hB.r.cell
  go_wp2_with fail
  refine (units_no _ _ _ _ n _ g _ (by omega) (by rw [UE.out]; omega) HA1.out).mono ?_
  rintro e w2 ⟨rfl, hK2⟩
  rw [UE.out]
  have HA2 := Lib.hid (HA1.out.later hK2)
  replace hB := hB.later hK2
  replace hK := hK.trans hK2
  replace hX := hX.later hK2
  clear HA1 hK2 e0 e1 e2 e3
  have e0 := hB.u.cell
  have e1 := hB.t.cell
  have e2 := hB.c.cell
  have e3 := hB.r.cell
  go_wp2_with fail
  refine (roff_any _ _ _ _).mono ?_
  rintro e w3 ⟨rfl, rfl⟩
  rw [EO.out]
  go_wp2_with fail
  refine (rrate_any _ _).mono ?_
  rintro e w3 ⟨rfl, rfl⟩
  rw [rate_in, HR.out]
  go_wp2_with fail
  refine (rfalling_any r rate n1 h3 r0 r1 c _ h4 h2 (by omega)).mono ?_
  rintro e w3 ⟨v, rfl, hG, hK3⟩
  obtain ⟨ad, cp, rfl, hAr⟩ := hG.arg
  obtain ⟨p2, off2, rfl, hR2⟩ := hAr.at (by omega)
  replace hX := hX.later hK3
  go_wp2_with fail
  refine (equal_yes (flP c r rate n1) _ _ _ _ _ _ n1 _ (by omega) hX.rd hR2).mono ?_
  rintro e w4 ⟨rfl, hd⟩
  have hK4 := hK3.trans hd.kept
  have HA3 := Lib.hid (HA2.out.later hK4)
  replace hB := hB.later hK4
  replace hK := hK.trans hK4
  clear HA2 hK3 hK4 hd hX hR2 hAr hG e0 e1 e2 e3
  have e0 := hB.u.cell
  have e1 := hB.t.cell
  have e2 := hB.c.cell
  have e3 := hB.r.cell
  go_wp2_with fail
  refine (roff_any _ _ _ _).mono ?_
  rintro e w5 ⟨rfl, rfl⟩
  rw [E1.out]
  go_wp2_with fail
  refine (contains_bad1 _ n _ g _ (by omega) HA3.out).mono ?_
  rintro e w5 ⟨rfl, rfl⟩
  rw [OW.out]
  go_wp2
  go_ret
  exact ⟨ret_bool (by simp), hK⟩
set_option maxRecDepth 100000 in
set_option maxHeartbeats 4000000 in
theorem fallSays_yes6 (c r rate : Int) (n1 : Nat) (total : Int) (a : Option Addr) (n cap : Nat) (g : Nat → Int) (w : World) (hA : Arg w a n g) (hcap : n ≤ cap) (ho : okA c r n1 = true) (hr : rtB rate = true) (u1 : okA c r 1 = true) (u2 : 1 ≤ total) (u3 : total ≤ 1000000) (u4 : n ≤ 40) (ue : unE c r total n g = 0) :
    Calls Try.prog 3 #[.int .i64 c, .int .i64 r, .int .i64 rate, .int .i64 (n1 : Int), .int .i64 total, .slice a n cap] w fun e w' => e = .returned (.bool true) ∧ Kept w w' := by
  obtain ⟨h1, h2, h3, h4, h5, h6⟩ := (okA_iff c r n1).1 ho
  have EO := Lib.hid (erA_yes ho)
  obtain ⟨r0, r1⟩ := (rtB_iff rate).1 hr
  have HR := Lib.hid hr
  have HO := Lib.hid ho
  have E1 := Lib.hid (erA_yes u1)
  have UE := Lib.hid ue
  have n41 : decide ((40 : Int) < (n : Int)) = false := by simp; omega
  have UO := Lib.hid (unE_iff ue)
  have OW := Lib.hid ((okWts_iff g n).2 UO.out.g)
  have hB := four_boxes w c r total (.slice a n cap)
  have hK := (((Kept.refl w).alloc (.cells #[.int .i64 c] 3)).alloc (.cells #[.int .i64 r] 3)).alloc (.cells #[.int .i64 total] 3)
  replace hK := hK.alloc (.cells #[.slice a n cap] 22)
  have HA := Lib.hid (hA.later hK)
  clear ho u1 ue hA hr
  go_enter Try.func3, Try.ntmps3
  go_wp2_with fail
  refine (falling_yes _ _ _ _ _ HO.out HR.out).mono ?_
  rintro e w1 ⟨p, hp, rfl, hX, hK1⟩
  have HA1 := Lib.hid (HA.out.later hK1)
  replace hB := hB.later hK1
  replace hK := hK.trans hK1
  clear HA hK1 hp
  have e0 := hB.u.cell
  have e1 := hB.t.cell
  have e2 := hB.c.cell
  have e3 := hB.r.cell
  go_wp2_with fail
  refine (units_yes _ _ _ _ n _ g _ UO.out HA1.out).mono ?_
  rintro e w2 ⟨q, hq, rfl, hY, hK2⟩
  have HA2 := Lib.hid (HA1.out.later hK2)
  replace hB := hB.later hK2
  replace hK := hK.trans hK2
  replace hX := hX.later hK2
  clear HA1 hK2 e0 e1 e2 e3 hq
  have e0 := hB.u.cell
  have e1 := hB.t.cell
  have e2 := hB.c.cell
  have e3 := hB.r.cell
  go_wp2_with fail
  refine (roff_any _ _ _ _).mono ?_
  rintro e w3 ⟨rfl, rfl⟩
  rw [EO.out]
  go_wp2_with fail
  refine (rrate_any _ _).mono ?_
  rintro e w3 ⟨rfl, rfl⟩
  rw [rate_in, HR.out]
  go_wp2_with fail
  refine (rfalling_any r rate n1 h3 r0 r1 c _ h4 h2 (by omega)).mono ?_
  rintro e w3 ⟨v, rfl, hG, hK3⟩
  obtain ⟨ad, cp, rfl, hAr⟩ := hG.arg
  obtain ⟨p2, off2, rfl, hR2⟩ := hAr.at (by omega)
  replace hX := hX.later hK3
  go_wp2_with fail
  refine (equal_yes (flP c r rate n1) _ _ _ _ _ _ n1 _ (by omega) hX.rd hR2).mono ?_
  rintro e w4 ⟨rfl, hd⟩
  have hK4 := hK3.trans hd.kept
  have HA3 := Lib.hid (HA2.out.later hK4)
  replace hB := hB.later hK4
  replace hK := hK.trans hK4
  replace hY := hY.later hK4
  clear HA2 hK3 hK4 hd hX hR2 hAr hG e0 e1 e2 e3
  have e0 := hB.u.cell
  have e1 := hB.t.cell
  have e2 := hB.c.cell
  have e3 := hB.r.cell
  go_wp2_with fail
  refine (roff_any _ _ _ _).mono ?_
  rintro e w5 ⟨rfl, rfl⟩
  rw [E1.out]
  go_wp2_with fail
  refine (contains_bad1 _ n _ g _ (by omega) HA3.out).mono ?_
  rintro e w5 ⟨rfl, rfl⟩
  rw [OW.out]
  go_wp2_with fail
  refine (parted_un _ _ _ _ n cap a total c r g _ UO.out hcap HA3.out hB).mono ?_
  rintro e w6 ⟨ad6, cp6, rfl, hA6, hK6⟩
  replace hY := hY.later hK6
  replace hK := hK.trans hK6
  clear hK6 hB e0 e1 e2 e3 HA3
  by_cases hn0 : 0 < n
  · obtain ⟨p3, off3, rfl, hR3⟩ := hA6.at hn0
    go_wp2_with fail
    refine (equal_yes (dif (unC (c - r) total g)) _ _ _ _ _ _ n _ (by omega) hY.rd hR3).mono ?_
    rintro e w7 ⟨rfl, hd⟩
    replace hK := hK.trans hd.kept
    clear hd hY hR3
    go_wp2
    go_ret
    exact ⟨ret_bool (by simp), hK⟩
  · obtain rfl : n = 0 := by omega
    go_wp2_with fail
    refine (equal_empty _ _ _ _ _).mono ?_
    rintro e w7 ⟨rfl, hd⟩
    replace hK := hK.trans hd.kept
    clear hd hY
    go_wp2
    go_ret
    exact ⟨ret_bool (by simp), hK⟩

end Go.Proofs.Ytcelkgbpgpgpjaa
