/-
  The law FallSays where Falling errs. Condition: the row's length is within its capacity.
-/
import Derived.Test.YtcelkgbpgpgpjaaLawFallSaysY
namespace Go.Proofs.Ytcelkgbpgpgpjaa
open Go.RowKit

set_option maxRecDepth 100000 in
set_option maxHeartbeats 4000000 in
theorem fallSays_arg1 (c r rate : Int) (n1 : Int) (total : Int) (a : Option Addr) (n cap : Nat) (g : Nat → Int) (w : World) (hn : n ≤ 4000000000000000000) (hA : Arg w a n g) (ho : okA c r n1 = false) (u1 : okA c r 1 = false) (ue : unE c r total n g = 1) :
    Calls Try.prog 3 #[.int .i64 c, .int .i64 r, .int .i64 rate, .int .i64 n1, .int .i64 total, .slice a n cap] w fun e w' => e = .returned (.bool true) ∧ Kept w w' := by
  have EO := Lib.hid (erA_no ho)
  have HO := Lib.hid ho
  have E1 := Lib.hid (erA_no u1)
  have UE := Lib.hid ue
  have hB := four_boxes w c r total (.slice a n cap)
  have hK := (((Kept.refl w).alloc (.cells #[.int .i64 c] 3)).alloc (.cells #[.int .i64 r] 3)).alloc (.cells #[.int .i64 total] 3)
  replace hK := hK.alloc (.cells #[.slice a n cap] 22)
  have HA := Lib.hid (hA.later hK)
  clear ho u1 ue hA
  go_enter Try.func3, Try.ntmps3
  go_wp2_with fail
  refine (falling_no _ _ _ _ _ (.inl HO.out)).mono ?_
  rintro e w1 ⟨rfl, hK1⟩
  have HA1 := Lib.hid (HA.out.later hK1)
  replace hB := hB.later hK1
  replace hK := hK.trans hK1
  clear HA hK1
  have e0 := hB.u.cell
  have e1 := hB.t.cell
  have e2 := hB.c.cell
  have e3 := hB.r.cell
  go_wp2_with fail
  refine (units_no _ _ _ _ n _ g _ (by omega) (by rw [UE.out]; omega) HA1.out).mono ?_
  rintro e w2 ⟨rfl, hK2⟩
  rw [UE.out]
  have HA2 := Lib.hid (HA1.out.later hK2)
  replace hB := hB.later hK2
  replace hK := hK.trans hK2
  clear HA1 hK2 e0 e1 e2 e3
  have e0 := hB.u.cell
  have e1 := hB.t.cell
  have e2 := hB.c.cell
  have e3 := hB.r.cell
  go_wp2_with fail
  refine (roff_any _ _ _ _).mono ?_
  rintro e w3 ⟨rfl, rfl⟩
  rw [EO.out]
  have HA3 := HA2
  clear HA2
  go_wp2_with fail
  refine (roff_any _ _ _ _).mono ?_
  rintro e w5 ⟨rfl, rfl⟩
  rw [E1.out]
  go_wp2
  go_ret
  exact ⟨ret_bool (by simp), hK⟩
set_option maxRecDepth 100000 in
set_option maxHeartbeats 4000000 in
theorem fallSays_arg2 (c r rate : Int) (n1 : Int) (total : Int) (a : Option Addr) (n cap : Nat) (g : Nat → Int) (w : World) (hn : n ≤ 4000000000000000000) (hA : Arg w a n g) (ho : okA c r n1 = false) (u1 : okA c r 1 = true) (u2 : total < 1) (ue : unE c r total n g = 1) :
    Calls Try.prog 3 #[.int .i64 c, .int .i64 r, .int .i64 rate, .int .i64 n1, .int .i64 total, .slice a n cap] w fun e w' => e = .returned (.bool true) ∧ Kept w w' := by
  have EO := Lib.hid (erA_no ho)
  have HO := Lib.hid ho
  have E1 := Lib.hid (erA_yes u1)
  have UE := Lib.hid ue
  have hB := four_boxes w c r total (.slice a n cap)
  have hK := (((Kept.refl w).alloc (.cells #[.int .i64 c] 3)).alloc (.cells #[.int .i64 r] 3)).alloc (.cells #[.int .i64 total] 3)
  replace hK := hK.alloc (.cells #[.slice a n cap] 22)
  have HA := Lib.hid (hA.later hK)
  clear ho u1 ue hA
  go_enter Try.func3, Try.ntmps3
  go_wp2_with fail
  refine (falling_no _ _ _ _ _ (.inl HO.out)).mono ?_
  rintro e w1 ⟨rfl, hK1⟩
  have HA1 := Lib.hid (HA.out.later hK1)
  replace hB := hB.later hK1
  replace hK := hK.trans hK1
  clear HA hK1
  have e0 := hB.u.cell
  have e1 := hB.t.cell
  have e2 := hB.c.cell
  have e3 := hB.r.cell
  go_wp2_with fail
  refine (units_no _ _ _ _ n _ g _ (by omega) (by rw [UE.out]; omega) HA1.out).mono ?_
  rintro e w2 ⟨rfl, hK2⟩
  rw [UE.out]
  have HA2 := Lib.hid (HA1.out.later hK2)
  replace hB := hB.later hK2
  replace hK := hK.trans hK2
  clear HA1 hK2 e0 e1 e2 e3
  have e0 := hB.u.cell
  have e1 := hB.t.cell
  have e2 := hB.c.cell
  have e3 := hB.r.cell
  go_wp2_with fail
  refine (roff_any _ _ _ _).mono ?_
  rintro e w3 ⟨rfl, rfl⟩
  rw [EO.out]
  have HA3 := HA2
  clear HA2
  go_wp2_with fail
  refine (roff_any _ _ _ _).mono ?_
  rintro e w5 ⟨rfl, rfl⟩
  rw [E1.out]
  go_wp2
  go_ret
  exact ⟨ret_bool (by simp), hK⟩
set_option maxRecDepth 100000 in
set_option maxHeartbeats 4000000 in
theorem fallSays_arg3 (c r rate : Int) (n1 : Int) (total : Int) (a : Option Addr) (n cap : Nat) (g : Nat → Int) (w : World) (hn : n ≤ 4000000000000000000) (hA : Arg w a n g) (ho : okA c r n1 = false) (u1 : okA c r 1 = true) (u2 : 1 ≤ total) (u3 : 1000000 < total) (ue : unE c r total n g = 1) :
    Calls Try.prog 3 #[.int .i64 c, .int .i64 r, .int .i64 rate, .int .i64 n1, .int .i64 total, .slice a n cap] w fun e w' => e = .returned (.bool true) ∧ Kept w w' := by
  have EO := Lib.hid (erA_no ho)
  have HO := Lib.hid ho
  have E1 := Lib.hid (erA_yes u1)
  have UE := Lib.hid ue
  have hB := four_boxes w c r total (.slice a n cap)
  have hK := (((Kept.refl w).alloc (.cells #[.int .i64 c] 3)).alloc (.cells #[.int .i64 r] 3)).alloc (.cells #[.int .i64 total] 3)
  replace hK := hK.alloc (.cells #[.slice a n cap] 22)
  have HA := Lib.hid (hA.later hK)
  clear ho u1 ue hA
  go_enter Try.func3, Try.ntmps3
  go_wp2_with fail
  refine (falling_no _ _ _ _ _ (.inl HO.out)).mono ?_
  rintro e w1 ⟨rfl, hK1⟩
  have HA1 := Lib.hid (HA.out.later hK1)
  replace hB := hB.later hK1
  replace hK := hK.trans hK1
  clear HA hK1
  have e0 := hB.u.cell
  have e1 := hB.t.cell
  have e2 := hB.c.cell
  have e3 := hB.r.cell
  go_wp2_with fail
  refine (units_no _ _ _ _ n _ g _ (by omega) (by rw [UE.out]; omega) HA1.out).mono ?_
  rintro e w2 ⟨rfl, hK2⟩
  rw [UE.out]
  have HA2 := Lib.hid (HA1.out.later hK2)
  replace hB := hB.later hK2
  replace hK := hK.trans hK2
  clear HA1 hK2 e0 e1 e2 e3
  have e0 := hB.u.cell
  have e1 := hB.t.cell
  have e2 := hB.c.cell
  have e3 := hB.r.cell
  go_wp2_with fail
  refine (roff_any _ _ _ _).mono ?_
  rintro e w3 ⟨rfl, rfl⟩
  rw [EO.out]
  have HA3 := HA2
  clear HA2
  go_wp2_with fail
  refine (roff_any _ _ _ _).mono ?_
  rintro e w5 ⟨rfl, rfl⟩
  rw [E1.out]
  go_wp2
  go_ret
  exact ⟨ret_bool (by simp), hK⟩
set_option maxRecDepth 100000 in
set_option maxHeartbeats 4000000 in
theorem fallSays_arg4 (c r rate : Int) (n1 : Int) (total : Int) (a : Option Addr) (n cap : Nat) (g : Nat → Int) (w : World) (hn : n ≤ 4000000000000000000) (hA : Arg w a n g) (ho : okA c r n1 = false) (u1 : okA c r 1 = true) (u2 : 1 ≤ total) (u3 : total ≤ 1000000) (u4 : 40 < n) (ue : unE c r total n g = 2) :
    Calls Try.prog 3 #[.int .i64 c, .int .i64 r, .int .i64 rate, .int .i64 n1, .int .i64 total, .slice a n cap] w fun e w' => e = .returned (.bool true) ∧ Kept w w' := by
  have EO := Lib.hid (erA_no ho)
  have HO := Lib.hid ho
  have E1 := Lib.hid (erA_yes u1)
  have UE := Lib.hid ue
  have n41 : decide ((40 : Int) < (n : Int)) = true := by simp; omega
  have hB := four_boxes w c r total (.slice a n cap)
  have hK := (((Kept.refl w).alloc (.cells #[.int .i64 c] 3)).alloc (.cells #[.int .i64 r] 3)).alloc (.cells #[.int .i64 total] 3)
  replace hK := hK.alloc (.cells #[.slice a n cap] 22)
  have HA := Lib.hid (hA.later hK)
  clear ho u1 ue hA
  go_enter Try.func3, Try.ntmps3
  go_wp2_with fail
  refine (falling_no _ _ _ _ _ (.inl HO.out)).mono ?_
  rintro e w1 ⟨rfl, hK1⟩
  have HA1 := Lib.hid (HA.out.later hK1)
  replace hB := hB.later hK1
  replace hK := hK.trans hK1
  clear HA hK1
  have e0 := hB.u.cell
  have e1 := hB.t.cell
  have e2 := hB.c.cell
  have e3 := hB.r.cell
  go_wp2_with fail
  refine (units_no _ _ _ _ n _ g _ (by omega) (by rw [UE.out]; omega) HA1.out).mono ?_
  rintro e w2 ⟨rfl, hK2⟩
  rw [UE.out]
  have HA2 := Lib.hid (HA1.out.later hK2)
  replace hB := hB.later hK2
  replace hK := hK.trans hK2
  clear HA1 hK2 e0 e1 e2 e3
  have e0 := hB.u.cell
  have e1 := hB.t.cell
  have e2 := hB.c.cell
  have e3 := hB.r.cell
  go_wp2_with fail
  refine (roff_any _ _ _ _).mono ?_
  rintro e w3 ⟨rfl, rfl⟩
  rw [EO.out]
  have HA3 := HA2
  clear HA2
  go_wp2_with fail
  refine (roff_any _ _ _ _).mono ?_
  rintro e w5 ⟨rfl, rfl⟩
  rw [E1.out]
  go_wp2
  go_ret
  exact ⟨ret_bool (by simp), hK⟩
set_option maxRecDepth 100000 in
set_option maxHeartbeats 4000000 in
theorem fallSays_arg5 (c r rate : Int) (n1 : Int) (total : Int) (a : Option Addr) (n cap : Nat) (g : Nat → Int) (w : World) (hn : n ≤ 4000000000000000000) (hA : Arg w a n g) (ho : okA c r n1 = false) (u1 : okA c r 1 = true) (u2 : 1 ≤ total) (u3 : total ≤ 1000000) (u4 : n ≤ 40) (u5 : okWts g n = false) (ue : unE c r total n g = 1) :
    Calls Try.prog 3 #[.int .i64 c, .int .i64 r, .int .i64 rate, .int .i64 n1, .int .i64 total, .slice a n cap] w fun e w' => e = .returned (.bool true) ∧ Kept w w' := by
  have EO := Lib.hid (erA_no ho)
  have HO := Lib.hid ho
  have E1 := Lib.hid (erA_yes u1)
  have UE := Lib.hid ue
  have n41 : decide ((40 : Int) < (n : Int)) = false := by simp; omega
  have OW := Lib.hid u5
  have hB := four_boxes w c r total (.slice a n cap)
  have hK := (((Kept.refl w).alloc (.cells #[.int .i64 c] 3)).alloc (.cells #[.int .i64 r] 3)).alloc (.cells #[.int .i64 total] 3)
  replace hK := hK.alloc (.cells #[.slice a n cap] 22)
  have HA := Lib.hid (hA.later hK)
  clear ho u1 ue hA u5
  go_enter Try.func3, Try.ntmps3
  go_wp2_with fail
  refine (falling_no _ _ _ _ _ (.inl HO.out)).mono ?_
  rintro e w1 ⟨rfl, hK1⟩
  have HA1 := Lib.hid (HA.out.later hK1)
  replace hB := hB.later hK1
  replace hK := hK.trans hK1
  clear HA hK1
  have e0 := hB.u.cell
  have e1 := hB.t.cell
  have e2 := hB.c.cell
  have e3 := hB.r.cell
  go_wp2_with fail
  refine (units_no _ _ _ _ n _ g _ (by omega) (by rw [UE.out]; omega) HA1.out).mono ?_
  rintro e w2 ⟨rfl, hK2⟩
  rw [UE.out]
  have HA2 := Lib.hid (HA1.out.later hK2)
  replace hB := hB.later hK2
  replace hK := hK.trans hK2
  clear HA1 hK2 e0 e1 e2 e3
  have e0 := hB.u.cell
  have e1 := hB.t.cell
  have e2 := hB.c.cell
  have e3 := hB.r.cell
  go_wp2_with fail
  refine (roff_any _ _ _ _).mono ?_
  rintro e w3 ⟨rfl, rfl⟩
  rw [EO.out]
  have HA3 := HA2
  clear HA2
  go_wp2_with fail
  refine (roff_any _ _ _ _).mono ?_
  rintro e w5 ⟨rfl, rfl⟩
  rw [E1.out]
  go_wp2_with fail
  refine (contains_bad1 _ n _ g _ (by omega) HA3.out).mono ?_
  rintro e w5 ⟨rfl, rfl⟩
  rw [OW.out]
  go_wp2
  go_ret
  exact ⟨ret_bool (by simp), hK⟩
set_option maxRecDepth 100000 in
set_option maxHeartbeats 4000000 in
theorem fallSays_arg6 (c r rate : Int) (n1 : Int) (total : Int) (a : Option Addr) (n cap : Nat) (g : Nat → Int) (w : World) (hA : Arg w a n g) (hcap : n ≤ cap) (ho : okA c r n1 = false) (u1 : okA c r 1 = true) (u2 : 1 ≤ total) (u3 : total ≤ 1000000) (u4 : n ≤ 40) (ue : unE c r total n g = 0) :
    Calls Try.prog 3 #[.int .i64 c, .int .i64 r, .int .i64 rate, .int .i64 n1, .int .i64 total, .slice a n cap] w fun e w' => e = .returned (.bool true) ∧ Kept w w' := by
  have EO := Lib.hid (erA_no ho)
  have HO := Lib.hid ho
  have E1 := Lib.hid (erA_yes u1)
  have UE := Lib.hid ue
  have n41 : decide ((40 : Int) < (n : Int)) = false := by simp; omega
  have UO := Lib.hid (unE_iff ue)
  have OW := Lib.hid ((okWts_iff g n).2 UO.out.g)
  have hB := four_boxes w c r total (.slice a n cap)
  have hK := (((Kept.refl w).alloc (.cells #[.int .i64 c] 3)).alloc (.cells #[.int .i64 r] 3)).alloc (.cells #[.int .i64 total] 3)
  replace hK := hK.alloc (.cells #[.slice a n cap] 22)
  have HA := Lib.hid (hA.later hK)
  clear ho u1 ue hA
  go_enter Try.func3, Try.ntmps3
  go_wp2_with fail
  refine (falling_no _ _ _ _ _ (.inl HO.out)).mono ?_
  rintro e w1 ⟨rfl, hK1⟩
  have HA1 := Lib.hid (HA.out.later hK1)
  replace hB := hB.later hK1
  replace hK := hK.trans hK1
  clear HA hK1
  have e0 := hB.u.cell
  have e1 := hB.t.cell
  have e2 := hB.c.cell
  have e3 := hB.r.cell
  go_wp2_with fail
  refine (units_yes _ _ _ _ n _ g _ UO.out HA1.out).mono ?_
  rintro e w2 ⟨q, hq, rfl, hY, hK2⟩
  have HA2 := Lib.hid (HA1.out.later hK2)
  replace hB := hB.later hK2
  replace hK := hK.trans hK2
  clear HA1 hK2 e0 e1 e2 e3 hq
  have e0 := hB.u.cell
  have e1 := hB.t.cell
  have e2 := hB.c.cell
  have e3 := hB.r.cell
  go_wp2_with fail
  refine (roff_any _ _ _ _).mono ?_
  rintro e w3 ⟨rfl, rfl⟩
  rw [EO.out]
  have HA3 := HA2
  clear HA2
  go_wp2_with fail
  refine (roff_any _ _ _ _).mono ?_
  rintro e w5 ⟨rfl, rfl⟩
  rw [E1.out]
  go_wp2_with fail
  refine (contains_bad1 _ n _ g _ (by omega) HA3.out).mono ?_
  rintro e w5 ⟨rfl, rfl⟩
  rw [OW.out]
  go_wp2_with fail
  refine (parted_un _ _ _ _ n cap a total c r g _ UO.out hcap HA3.out hB).mono ?_
  rintro e w6 ⟨ad6, cp6, rfl, hA6, hK6⟩
  replace hY := hY.later hK6
  replace hK := hK.trans hK6
  clear hK6 hB e0 e1 e2 e3 HA3
  by_cases hn0 : 0 < n
  · obtain ⟨p3, off3, rfl, hR3⟩ := hA6.at hn0
    go_wp2_with fail
    refine (equal_yes (dif (unC (c - r) total g)) _ _ _ _ _ _ n _ (by omega) hY.rd hR3).mono ?_
    rintro e w7 ⟨rfl, hd⟩
    replace hK := hK.trans hd.kept
    clear hd hY hR3
    go_wp2
    go_ret
    exact ⟨ret_bool (by simp), hK⟩
  · obtain rfl : n = 0 := by omega
    go_wp2_with fail
    refine (equal_empty _ _ _ _ _).mono ?_
    rintro e w7 ⟨rfl, hd⟩
    replace hK := hK.trans hd.kept
    clear hd hY
    go_wp2
    go_ret
    exact ⟨ret_bool (by simp), hK⟩

end Go.Proofs.Ytcelkgbpgpgpjaa
