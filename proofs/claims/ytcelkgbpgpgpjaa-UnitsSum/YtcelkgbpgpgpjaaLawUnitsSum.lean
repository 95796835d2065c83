/-
  The law UnitsSum returns true: an asset whose units are used up is written off exactly; splitting a usage in two has no effect. Condition: none but that the length fits the address space.
-/
import Derived.Test.YtcelkgbpgpgpjaaNWalkE
namespace Go.Proofs.Ytcelkgbpgpgpjaa
open Go.RowKit Go.WideShapes

def lit39 : Nat → Int := fun j => if j = 0 then 3 else 9
theorem lit39_tab : tab 2 lit39 = [3, 9] := by decide
theorem un_100 : tab 2 (dif (unC (100 - 0) 10 lit39)) = [30, 70] := by decide
theorem un_lit : UnOk 100 0 10 2 lit39 := ⟨by omega, by omega, by omega, by omega, by omega, by omega, by omega, fun i _ => by unfold lit39; split <;> omega⟩
theorem twoG_ok (g : Nat → Int) (i n : Nat) (k : Int) (hi : i < n) (h : WtOk g n) (k0 : 0 ≤ k) (k1 : k ≤ g i) : WtOk (twoG g i k) (n + 1) := by
  intro j hj
  have gi := h i hi
  unfold twoG
  split
  · exact h j (by omega)
  · split
    · omega
    · split
      · omega
      · exact h (j - 1) (by omega)
theorem UnOk.two {c r total : Int} {n : Nat} {g : Nat → Int} (h : UnOk c r total n g) (i : Nat) (k : Int) (hi : i < n) (hn : n < 40) (k0 : 0 ≤ k) (k1 : k ≤ g i) : UnOk c r total (n + 1) (twoG g i k) :=
  ⟨h.c0, h.c1, h.r0, h.rc, h.t1, h.t2, by omega, twoG_ok g i n k hi h.g k0 k1⟩
theorem ins_two (g : Nat → Int) (i : Nat) (k : Int) (n : Nat) : tab n (up (insG g i k) (i + 1) (g i - k)) = tab n (twoG g i k) := tab_congr n (fun j _ => by
  unfold up insG twoG
  by_cases c1 : j < i
  · rw [if_neg (by omega), if_pos c1, if_pos c1]
  · by_cases c2 : j = i
    · rw [if_neg (by omega), if_neg c1, if_pos c2, if_neg c1, if_pos c2]
    · by_cases c3 : j = i + 1
      · rw [if_pos c3, if_neg c1, if_neg c2, if_pos c3]
      · rw [if_neg c3, if_neg c1, if_neg c2, if_neg c1, if_neg c2, if_neg c3])
theorem ins_next (g : Nat → Int) (i : Nat) (k : Int) : insG g i k (i + 1) = g i := by
  unfold insG; rw [if_neg (by omega), if_neg (by omega)]; rfl
/-- The two parts put together again, and one place taken out. -/
theorem del_two (a total : Int) (g : Nat → Int) (i n : Nat) (k : Int) :
    tab n (delG (up (dif (unC a total (twoG g i k))) (i + 1) (dif (unC a total (twoG g i k)) (i + 1) + dif (unC a total (twoG g i k)) i)) i) = tab n (dif (unC a total g)) := tab_congr n (fun j _ => by
  unfold delG
  by_cases c1 : j < i
  · rw [if_pos c1, up_ne _ _ (by omega)]
    unfold dif
    rw [unC_two_le a total g i k (j + 1) (by omega), unC_two_le a total g i k j (by omega)]
  · rw [if_neg c1]
    by_cases c2 : j = i
    · subst c2
      rw [up_same]
      unfold dif
      rw [unC_two_ge a total g j k (j + 1) (by omega), unC_two_le a total g j k j (by omega)]
      omega
    · rw [up_ne _ _ (by omega)]
      unfold dif
      rw [unC_two_ge a total g i k (j + 1) (by omega), unC_two_ge a total g i k j (by omega)])
theorem delete_one (p n i : Nat) (h : Nat → Int) (w B : World) (hO : Own w p (tab (n + 1) h)) (hp : B.heap.size ≤ p) (hK : Kept B w) (hi : i < n + 1) (hm : n + 1 ≤ 1000) :
    Calls Try.prog 25 #[.slice (some ⟨p, 0, none⟩) (n + 1) (n + 1), .int .i64 (i : Int), .int .i64 ((i : Int) + 1)] w
      fun e w' => e = .returned (.slice (some ⟨p, 0, none⟩) n (n + 1)) ∧ Own w' p (tab n (delG h i)) ∧ Kept B w' ∧ ∀ (q off : Nat) (l : List Int), q ≠ p → Rd w q off l → Rd w' q off l :=
  delete_any p (n + 1) i h w B hO hp hK hi hm
set_option maxHeartbeats 400000 in
theorem sum_empty (a : Option Addr) (cap : Nat) (w : World) :
    Calls Try.prog 20 #[.slice a 0 cap] w fun e w' => e = .returned (.int .i64 0) ∧ w = w' := by
  go_enter Try.func20, Try.ntmps20
  go_wp2
  go_loop [3, 8] (fun s i => i = .int .i64 0 ∧ s = .int .i64 0) (fun _ _ => 0)
  case atStart => exact ⟨rfl, rfl⟩
  case round =>
    obtain ⟨rfl, rfl⟩ := hrel
    go_wp2
    go_ret
    exact ⟨rfl, rfl⟩
set_option maxRecDepth 100000 in
set_option maxHeartbeats 4000000 in
theorem units_0B (c r total : Int) (a : Option Addr) (cap : Nat) (i0 k0 : Int) (g : Nat → Int) (w : World) (h : UnOk c r total 0 g) (cB : c - r = 0) :
    Calls Try.prog 6 #[.int .i64 c, .int .i64 r, .int .i64 total, .slice a 0 cap, .int .i64 i0, .int .i64 k0] w fun e w' => e = .returned (.bool true) ∧ Kept w w' := by
  obtain ⟨c0, c1, r0, rc, t1, t2, n40, hg⟩ := id h
  have UO := Lib.hid h
  have tX : ((0 : Int) == c - r) = true := by rw [beq_iff_eq]; omega
  have tG : decide (c - r < 0) = false := by simp; omega
  have tS : decide (total ≤ 0) = false := by simp; omega
  clear h hg cB
  have hL := (Own.lit (w := w) (l := [3, 9]) (t := 3) rfl).rd
  rw [← lit39_tab] at hL
  go_enter Try.func6, Try.ntmps6
  go_wp2_with fail
  refine (units_yes 100 0 10 _ 2 _ lit39 _ un_lit (Arg.of hL)).mono ?_
  rintro e w1 ⟨q, _, rfl, hO, hK⟩
  have hK1 := ((Kept.refl w).alloc _).trans hK
  clear hL hK
  go_wp2_with fail
  have hQ := (Own.lit (w := w1) (l := [30, 70]) (t := 3) rfl).rd
  rw [← un_100] at hQ
  refine (equal_yes (dif (unC (100 - 0) 10 lit39)) _ _ _ _ _ _ 2 _ (by omega) (hO.rd.later ((Kept.refl w1).alloc _)) hQ).mono ?_
  rintro e w2 ⟨rfl, hd⟩
  have hK2 := (hK1.alloc _).trans hd.kept
  clear hO hK1 hd hQ
  have hA2 : Arg w2 a 0 g := .inl rfl
  go_wp2_with fail
  refine (units_yes _ _ _ _ 0 _ g _ UO.out hA2).mono ?_
  rintro e w3 ⟨px, hpx, rfl, hX, hK3⟩
  have hK4 := hK2.trans hK3
  clear hA2 hK2 hpx
  generalize hx : dif (unC (c - r) total g) = x at *
  go_wp2_with fail
  refine (sum_any x _ _ 0 _ _ (by omega) (fun j hj => by omega) hX.rd).mono ?_
  rintro e w9 ⟨rfl, rfl⟩
  rw [show sumTo x 0 = 0 from rfl]
  go_wp2_with fail
  refine (sum_empty _ _ _).mono ?_
  rintro e w9 ⟨rfl, rfl⟩
  go_wp2_with fail
  refine (sum_any x _ _ 0 _ _ (by omega) (fun j hj => by omega) hX.rd).mono ?_
  rintro e w9 ⟨rfl, rfl⟩
  rw [show sumTo x 0 = 0 from rfl]
  go_wp2_with fail
  refine (sum_empty _ _ _).mono ?_
  rintro e w9 ⟨rfl, rfl⟩
  go_wp2
  go_ret
  exact ⟨ret_bool (by simp), hK4⟩
set_option maxRecDepth 100000 in
set_option maxHeartbeats 4000000 in
theorem units_0C (c r total : Int) (a : Option Addr) (cap : Nat) (i0 k0 : Int) (g : Nat → Int) (w : World) (h : UnOk c r total 0 g) (cB : ¬ c - r = 0) :
    Calls Try.prog 6 #[.int .i64 c, .int .i64 r, .int .i64 total, .slice a 0 cap, .int .i64 i0, .int .i64 k0] w fun e w' => e = .returned (.bool true) ∧ Kept w w' := by
  obtain ⟨c0, c1, r0, rc, t1, t2, n40, hg⟩ := id h
  have UO := Lib.hid h
  have tX : ((0 : Int) == c - r) = false := by rw [beq_eq_false_iff_ne]; omega
  have tG : decide (c - r < 0) = false := by simp; omega
  have tS : decide (total ≤ 0) = false := by simp; omega
  clear h hg cB
  have hL := (Own.lit (w := w) (l := [3, 9]) (t := 3) rfl).rd
  rw [← lit39_tab] at hL
  go_enter Try.func6, Try.ntmps6
  go_wp2_with fail
  refine (units_yes 100 0 10 _ 2 _ lit39 _ un_lit (Arg.of hL)).mono ?_
  rintro e w1 ⟨q, _, rfl, hO, hK⟩
  have hK1 := ((Kept.refl w).alloc _).trans hK
  clear hL hK
  go_wp2_with fail
  have hQ := (Own.lit (w := w1) (l := [30, 70]) (t := 3) rfl).rd
  rw [← un_100] at hQ
  refine (equal_yes (dif (unC (100 - 0) 10 lit39)) _ _ _ _ _ _ 2 _ (by omega) (hO.rd.later ((Kept.refl w1).alloc _)) hQ).mono ?_
  rintro e w2 ⟨rfl, hd⟩
  have hK2 := (hK1.alloc _).trans hd.kept
  clear hO hK1 hd hQ
  have hA2 : Arg w2 a 0 g := .inl rfl
  go_wp2_with fail
  refine (units_yes _ _ _ _ 0 _ g _ UO.out hA2).mono ?_
  rintro e w3 ⟨px, hpx, rfl, hX, hK3⟩
  have hK4 := hK2.trans hK3
  clear hA2 hK2 hpx
  generalize hx : dif (unC (c - r) total g) = x at *
  go_wp2_with fail
  refine (sum_any x _ _ 0 _ _ (by omega) (fun j hj => by omega) hX.rd).mono ?_
  rintro e w9 ⟨rfl, rfl⟩
  rw [show sumTo x 0 = 0 from rfl]
  go_wp2_with fail
  refine (sum_empty _ _ _).mono ?_
  rintro e w9 ⟨rfl, rfl⟩
  go_wp2_with fail
  refine (sum_any x _ _ 0 _ _ (by omega) (fun j hj => by omega) hX.rd).mono ?_
  rintro e w9 ⟨rfl, rfl⟩
  rw [show sumTo x 0 = 0 from rfl]
  go_wp2
  go_ret
  exact ⟨ret_bool (by simp), hK4⟩
set_option maxRecDepth 100000 in
set_option maxHeartbeats 4000000 in
theorem units_40A (c r total : Int) (p off n cap : Nat) (i0 k0 : Int) (g : Nat → Int) (w : World) (h : UnOk c r total n g) (hR : Rd w p off (tab n g)) (h40 : n = 40) (cA : total ≤ sumTo g n) :
    Calls Try.prog 6 #[.int .i64 c, .int .i64 r, .int .i64 total, .slice (some ⟨p, off, none⟩) n cap, .int .i64 i0, .int .i64 k0] w fun e w' => e = .returned (.bool true) ∧ Kept w w' := by
  subst h40
  obtain ⟨c0, c1, r0, rc, t1, t2, n40, hg⟩ := id h
  have UO := Lib.hid h
  have HG := Lib.hid hg
  have PB := Lib.hid (fun j (hj : j < 40) => unP_bd (c - r) total g 40 j t1 (by omega) (fun t ht => (hg t ht).1) hj)
  have XS := Lib.hid (show sumTo (dif (unC (c - r) total g)) 40 = unC (c - r) total g 40 by rw [sum_dif, unC_zero _ _ _ t1]; omega)
  have xb := unC_bd (c - r) total g 40 t1 (by omega) (fun t ht => (hg t ht).1)
  have cB := unC_all (c - r) total g 40 t1 cA
  have tS : decide (total ≤ sumTo g 40) = true := by simpa using cA
  have tX : (unC (c - r) total g 40 == c - r) = true := by rw [beq_iff_eq]; exact cB
  have tG : decide (c - r < unC (c - r) total g 40) = false := by simp; omega
  generalize hX : unC (c - r) total g 40 = X at *
  generalize hS : sumTo g 40 = S at *
  have HSS := Lib.hid hS
  clear h hg cA cB xb hX hS
  have hL := (Own.lit (w := w) (l := [3, 9]) (t := 3) rfl).rd
  rw [← lit39_tab] at hL
  go_enter Try.func6, Try.ntmps6
  go_wp2_with fail
  refine (units_yes 100 0 10 _ 2 _ lit39 _ un_lit (Arg.of hL)).mono ?_
  rintro e w1 ⟨q, _, rfl, hO, hK⟩
  have hK1 := ((Kept.refl w).alloc _).trans hK
  clear hL hK
  go_wp2_with fail
  have hQ := (Own.lit (w := w1) (l := [30, 70]) (t := 3) rfl).rd
  rw [← un_100] at hQ
  refine (equal_yes (dif (unC (100 - 0) 10 lit39)) _ _ _ _ _ _ 2 _ (by omega) (hO.rd.later ((Kept.refl w1).alloc _)) hQ).mono ?_
  rintro e w2 ⟨rfl, hd⟩
  have hK2 := (hK1.alloc _).trans hd.kept
  clear hO hK1 hd hQ
  have hR2 := hR.later hK2
  have hA2 := Arg.of hR2
  clear hR
  go_wp2_with fail
  refine (units_yes _ _ _ _ 40 _ g _ UO.out hA2).mono ?_
  rintro e w3 ⟨px, hpx, rfl, hX, hK3⟩
  have hK4 := hK2.trans hK3
  have hR3 := hR2.later hK3
  clear hA2 hK2 hpx hR2
  generalize hx : dif (unC (c - r) total g) = x at *
  go_wp2_with fail
  refine (sum_any x _ _ 40 _ _ (by omega) (fun j hj => by have := PB.out j hj; omega) hX.rd).mono ?_
  rintro e w9 ⟨rfl, rfl⟩
  rw [XS.out]
  go_wp2_with fail
  refine (sum_any g _ _ 40 _ _ (by omega) (fun j hj => by have := HG.out j hj; omega) hR3).mono ?_
  rintro e w9 ⟨rfl, rfl⟩
  rw [HSS.out]
  go_wp2_with fail
  refine (sum_any x _ _ 40 _ _ (by omega) (fun j hj => by have := PB.out j hj; omega) hX.rd).mono ?_
  rintro e w9 ⟨rfl, rfl⟩
  rw [XS.out]
  go_wp2_with fail
  refine (sum_any g _ _ 40 _ _ (by omega) (fun j hj => by have := HG.out j hj; omega) hR3).mono ?_
  rintro e w9 ⟨rfl, rfl⟩
  rw [HSS.out]
  go_wp2
  go_ret
  exact ⟨ret_bool (by simp), hK4⟩
set_option maxRecDepth 100000 in
set_option maxHeartbeats 4000000 in
theorem units_40B (c r total : Int) (p off n cap : Nat) (i0 k0 : Int) (g : Nat → Int) (w : World) (h : UnOk c r total n g) (hR : Rd w p off (tab n g)) (h40 : n = 40) (cA : sumTo g n < total) (cB : unC (c - r) total g n = c - r) :
    Calls Try.prog 6 #[.int .i64 c, .int .i64 r, .int .i64 total, .slice (some ⟨p, off, none⟩) n cap, .int .i64 i0, .int .i64 k0] w fun e w' => e = .returned (.bool true) ∧ Kept w w' := by
  subst h40
  obtain ⟨c0, c1, r0, rc, t1, t2, n40, hg⟩ := id h
  have UO := Lib.hid h
  have HG := Lib.hid hg
  have PB := Lib.hid (fun j (hj : j < 40) => unP_bd (c - r) total g 40 j t1 (by omega) (fun t ht => (hg t ht).1) hj)
  have XS := Lib.hid (show sumTo (dif (unC (c - r) total g)) 40 = unC (c - r) total g 40 by rw [sum_dif, unC_zero _ _ _ t1]; omega)
  have xb := unC_bd (c - r) total g 40 t1 (by omega) (fun t ht => (hg t ht).1)
  have tS : decide (total ≤ sumTo g 40) = false := by simp; omega
  have tX : (unC (c - r) total g 40 == c - r) = true := by rw [beq_iff_eq]; exact cB
  have tG : decide (c - r < unC (c - r) total g 40) = false := by simp; omega
  generalize hX : unC (c - r) total g 40 = X at *
  generalize hS : sumTo g 40 = S at *
  have HSS := Lib.hid hS
  clear h hg cA cB xb hX hS
  have hL := (Own.lit (w := w) (l := [3, 9]) (t := 3) rfl).rd
  rw [← lit39_tab] at hL
  go_enter Try.func6, Try.ntmps6
  go_wp2_with fail
  refine (units_yes 100 0 10 _ 2 _ lit39 _ un_lit (Arg.of hL)).mono ?_
  rintro e w1 ⟨q, _, rfl, hO, hK⟩
  have hK1 := ((Kept.refl w).alloc _).trans hK
  clear hL hK
  go_wp2_with fail
  have hQ := (Own.lit (w := w1) (l := [30, 70]) (t := 3) rfl).rd
  rw [← un_100] at hQ
  refine (equal_yes (dif (unC (100 - 0) 10 lit39)) _ _ _ _ _ _ 2 _ (by omega) (hO.rd.later ((Kept.refl w1).alloc _)) hQ).mono ?_
  rintro e w2 ⟨rfl, hd⟩
  have hK2 := (hK1.alloc _).trans hd.kept
  clear hO hK1 hd hQ
  have hR2 := hR.later hK2
  have hA2 := Arg.of hR2
  clear hR
  go_wp2_with fail
  refine (units_yes _ _ _ _ 40 _ g _ UO.out hA2).mono ?_
  rintro e w3 ⟨px, hpx, rfl, hX, hK3⟩
  have hK4 := hK2.trans hK3
  have hR3 := hR2.later hK3
  clear hA2 hK2 hpx hR2
  generalize hx : dif (unC (c - r) total g) = x at *
  go_wp2_with fail
  refine (sum_any x _ _ 40 _ _ (by omega) (fun j hj => by have := PB.out j hj; omega) hX.rd).mono ?_
  rintro e w9 ⟨rfl, rfl⟩
  rw [XS.out]
  go_wp2_with fail
  refine (sum_any g _ _ 40 _ _ (by omega) (fun j hj => by have := HG.out j hj; omega) hR3).mono ?_
  rintro e w9 ⟨rfl, rfl⟩
  rw [HSS.out]
  go_wp2_with fail
  refine (sum_any x _ _ 40 _ _ (by omega) (fun j hj => by have := PB.out j hj; omega) hX.rd).mono ?_
  rintro e w9 ⟨rfl, rfl⟩
  rw [XS.out]
  go_wp2_with fail
  refine (sum_any g _ _ 40 _ _ (by omega) (fun j hj => by have := HG.out j hj; omega) hR3).mono ?_
  rintro e w9 ⟨rfl, rfl⟩
  rw [HSS.out]
  go_wp2
  go_ret
  exact ⟨ret_bool (by simp), hK4⟩
set_option maxRecDepth 100000 in
set_option maxHeartbeats 4000000 in
theorem units_40C (c r total : Int) (p off n cap : Nat) (i0 k0 : Int) (g : Nat → Int) (w : World) (h : UnOk c r total n g) (hR : Rd w p off (tab n g)) (h40 : n = 40) (cA : sumTo g n < total) (cB : ¬ unC (c - r) total g n = c - r) :
    Calls Try.prog 6 #[.int .i64 c, .int .i64 r, .int .i64 total, .slice (some ⟨p, off, none⟩) n cap, .int .i64 i0, .int .i64 k0] w fun e w' => e = .returned (.bool true) ∧ Kept w w' := by
  subst h40
  obtain ⟨c0, c1, r0, rc, t1, t2, n40, hg⟩ := id h
  have UO := Lib.hid h
  have HG := Lib.hid hg
  have PB := Lib.hid (fun j (hj : j < 40) => unP_bd (c - r) total g 40 j t1 (by omega) (fun t ht => (hg t ht).1) hj)
  have XS := Lib.hid (show sumTo (dif (unC (c - r) total g)) 40 = unC (c - r) total g 40 by rw [sum_dif, unC_zero _ _ _ t1]; omega)
  have xb := unC_bd (c - r) total g 40 t1 (by omega) (fun t ht => (hg t ht).1)
  have tS : decide (total ≤ sumTo g 40) = false := by simp; omega
  have tX : (unC (c - r) total g 40 == c - r) = false := by rw [beq_eq_false_iff_ne]; exact cB
  have tG : decide (c - r < unC (c - r) total g 40) = false := by simp; omega
  generalize hX : unC (c - r) total g 40 = X at *
  generalize hS : sumTo g 40 = S at *
  have HSS := Lib.hid hS
  clear h hg cA cB xb hX hS
  have hL := (Own.lit (w := w) (l := [3, 9]) (t := 3) rfl).rd
  rw [← lit39_tab] at hL
  go_enter Try.func6, Try.ntmps6
  go_wp2_with fail
  refine (units_yes 100 0 10 _ 2 _ lit39 _ un_lit (Arg.of hL)).mono ?_
  rintro e w1 ⟨q, _, rfl, hO, hK⟩
  have hK1 := ((Kept.refl w).alloc _).trans hK
  clear hL hK
  go_wp2_with fail
  have hQ := (Own.lit (w := w1) (l := [30, 70]) (t := 3) rfl).rd
  rw [← un_100] at hQ
  refine (equal_yes (dif (unC (100 - 0) 10 lit39)) _ _ _ _ _ _ 2 _ (by omega) (hO.rd.later ((Kept.refl w1).alloc _)) hQ).mono ?_
  rintro e w2 ⟨rfl, hd⟩
  have hK2 := (hK1.alloc _).trans hd.kept
  clear hO hK1 hd hQ
  have hR2 := hR.later hK2
  have hA2 := Arg.of hR2
  clear hR
  go_wp2_with fail
  refine (units_yes _ _ _ _ 40 _ g _ UO.out hA2).mono ?_
  rintro e w3 ⟨px, hpx, rfl, hX, hK3⟩
  have hK4 := hK2.trans hK3
  have hR3 := hR2.later hK3
  clear hA2 hK2 hpx hR2
  generalize hx : dif (unC (c - r) total g) = x at *
  go_wp2_with fail
  refine (sum_any x _ _ 40 _ _ (by omega) (fun j hj => by have := PB.out j hj; omega) hX.rd).mono ?_
  rintro e w9 ⟨rfl, rfl⟩
  rw [XS.out]
  go_wp2_with fail
  refine (sum_any g _ _ 40 _ _ (by omega) (fun j hj => by have := HG.out j hj; omega) hR3).mono ?_
  rintro e w9 ⟨rfl, rfl⟩
  rw [HSS.out]
  go_wp2_with fail
  refine (sum_any x _ _ 40 _ _ (by omega) (fun j hj => by have := PB.out j hj; omega) hX.rd).mono ?_
  rintro e w9 ⟨rfl, rfl⟩
  rw [XS.out]
  go_wp2
  go_ret
  exact ⟨ret_bool (by simp), hK4⟩
set_option maxRecDepth 100000 in
set_option maxHeartbeats 4000000 in
theorem units_midA (c r total : Int) (p off n cap : Nat) (i0 k0 : Int) (g : Nat → Int) (w : World) (h : UnOk c r total n g) (hR : Rd w p off (tab n g)) (n1 : 1 ≤ n) (n39 : n < 40) (cA : total ≤ sumTo g n) :
    Calls Try.prog 6 #[.int .i64 c, .int .i64 r, .int .i64 total, .slice (some ⟨p, off, none⟩) n cap, .int .i64 i0, .int .i64 k0] w fun e w' => e = .returned (.bool true) ∧ Kept w w' := by
  obtain ⟨c0, c1, r0, rc, t1, t2, n40, hg⟩ := id h
  have UO := Lib.hid h
  have HG := Lib.hid hg
  have PB := Lib.hid (fun j (hj : j < n) => unP_bd (c - r) total g n j t1 (by omega) (fun t ht => (hg t ht).1) hj)
  have XS := Lib.hid (show sumTo (dif (unC (c - r) total g)) n = unC (c - r) total g n by rw [sum_dif, unC_zero _ _ _ t1]; omega)
  have xb := unC_bd (c - r) total g n t1 (by omega) (fun t ht => (hg t ht).1)
  have cB := unC_all (c - r) total g n t1 cA
  have tS : decide (total ≤ sumTo g n) = true := by simpa using cA
  have tX : (unC (c - r) total g n == c - r) = true := by rw [beq_iff_eq]; exact cB
  have tG : decide (c - r < unC (c - r) total g n) = false := by simp; omega
  generalize hX : unC (c - r) total g n = X at *
  generalize hS : sumTo g n = S at *
  have HSS := Lib.hid hS
  clear h hg cA cB xb hX hS
  have hL := (Own.lit (w := w) (l := [3, 9]) (t := 3) rfl).rd
  rw [← lit39_tab] at hL
  go_enter Try.func6, Try.ntmps6
  go_wp2_with fail
  refine (units_yes 100 0 10 _ 2 _ lit39 _ un_lit (Arg.of hL)).mono ?_
  rintro e w1 ⟨q, _, rfl, hO, hK⟩
  have hK1 := ((Kept.refl w).alloc _).trans hK
  clear hL hK
  go_wp2_with fail
  have hQ := (Own.lit (w := w1) (l := [30, 70]) (t := 3) rfl).rd
  rw [← un_100] at hQ
  refine (equal_yes (dif (unC (100 - 0) 10 lit39)) _ _ _ _ _ _ 2 _ (by omega) (hO.rd.later ((Kept.refl w1).alloc _)) hQ).mono ?_
  rintro e w2 ⟨rfl, hd⟩
  have hK2 := (hK1.alloc _).trans hd.kept
  clear hO hK1 hd hQ
  have hR2 := hR.later hK2
  have hA2 := Arg.of hR2
  clear hR
  go_wp2_with fail
  refine (units_yes _ _ _ _ n _ g _ UO.out hA2).mono ?_
  rintro e w3 ⟨px, hpx, rfl, hX, hK3⟩
  have hK4 := hK2.trans hK3
  have hR3 := hR2.later hK3
  clear hA2 hK2 hpx hR2
  generalize hx : dif (unC (c - r) total g) = x at *
  go_wp2_with fail
  refine (sum_any x _ _ n _ _ (by omega) (fun j hj => by have := PB.out j hj; omega) hX.rd).mono ?_
  rintro e w9 ⟨rfl, rfl⟩
  rw [XS.out]
  go_wp2_with fail
  refine (sum_any g _ _ n _ _ (by omega) (fun j hj => by have := HG.out j hj; omega) hR3).mono ?_
  rintro e w9 ⟨rfl, rfl⟩
  rw [HSS.out]
  go_wp2_with fail
  refine (sum_any x _ _ n _ _ (by omega) (fun j hj => by have := PB.out j hj; omega) hX.rd).mono ?_
  rintro e w9 ⟨rfl, rfl⟩
  rw [XS.out]
  go_wp2_with fail
  refine (sum_any g _ _ n _ _ (by omega) (fun j hj => by have := HG.out j hj; omega) hR3).mono ?_
  rintro e w9 ⟨rfl, rfl⟩
  rw [HSS.out]
  have nz : (((n : Nat) : Int) == 0) = false := by rw [beq_eq_false_iff_ne]; omega
  have n4 : (((n : Nat) : Int) == 40) = false := by rw [beq_eq_false_iff_ne]; omega
  go_wp2_with fail
  refine (within_any _ _ _ (by omega) (by omega)).mono ?_
  rintro e w9 ⟨i1, i2, i3, rfl, rfl⟩
  obtain ⟨i, rfl⟩ := Int.eq_ofNat_of_zero_le i2
  have hi : i < n := by omega
  have gi := HG.out i hi
  have hc := hR3.cell i (by rw [tab_len]; exact hi)
  rw [tab_get] at hc
  go_wp2_with fail
  refine (within_any _ _ _ (by omega) (by omega)).mono ?_
  rintro e w9 ⟨k, ka, kb, rfl, rfl⟩
  have UT := Lib.hid (UO.out.two i k hi (by omega) ka (by omega))
  go_wp2_with fail
  refine (clone_any p off n cap g _ n1 (by omega) hR3).mono ?_
  rintro e w4 ⟨q4, c4, hq4, rfl, hG4, hK5⟩
  go_wp2_with fail
  refine (insert_any q4 c4 n i k g w4 w3 hG4 hK5 hi (by omega)).mono ?_
  rintro e w5 ⟨q5, c5, hq5, rfl, hO5, hK6⟩
  have hX5 := hX.later hK6
  have hpx3 := hX.lt
  clear hG4 hK5 hX hq4 hc hR3
  have cn := hO5.cell (i + 1) (by rw [tab_len]; omega)
  have fn := hO5.free (i + 1) (by rw [tab_len]; omega)
  rw [tab_get, ins_next] at cn
  have ST := Lib.hid (show Own (w5.setCell ⟨q5, i + 1, none⟩ (.int .i64 (g i - k))) q5 (tab (n + 1) (twoG g i k)) by
    have := hO5.set (i + 1) (g i - k) (by rw [tab_len]; omega)
    rw [tab_set, ins_two] at this
    exact this)
  have KT := Lib.hid (hK6.setAt (i := i + 1) hq5 (.int .i64 (g i - k)))
  have hq5x : px < q5 := by omega
  have XT := Lib.hid (show Rd (w5.setCell ⟨q5, i + 1, none⟩ (.int .i64 (g i - k))) px 0 (tab n x) from hX5.rd.other (by omega))
  have i5 : ((i : Int) + 1).toNat = i + 1 := by omega
  clear hO5 hK6
  generalize hgi : g i = t at *
  go_wp2_with fail
  have hA6 := Arg.of ST.out.rd
  refine (units_yes _ _ _ _ (n + 1) _ (twoG g i k) _ UT.out hA6).mono ?_
  rintro e w6 ⟨py, hpy, rfl, hY, hK8⟩
  have hX6 := XT.out.later hK8
  have hK9 := KT.out.trans hK8
  have hpx6 : px < py := by have := XT.out.lt; omega
  have hpw : w.heap.size ≤ py := by have := KT.out.le; have := hK4.le; omega
  have hKw := hK4.trans hK9
  clear hA6 hK8 XT ST KT cn fn hX5 hK9 hK4
  have YB := Lib.hid (fun j (hj : j < n + 1) => unP_bd (c - r) total (twoG g i k) (n + 1) j t1 (by omega) (fun t ht => (UT.out.g t ht).1) hj)
  have DT := Lib.hid (del_two (c - r) total g i n k)
  rw [hx] at DT
  generalize dif (unC (c - r) total (twoG g i k)) = y at *
  have ca := hY.cell i (by rw [tab_len]; omega)
  have cb := hY.cell (i + 1) (by rw [tab_len]; omega)
  have fb := hY.free (i + 1) (by rw [tab_len]; omega)
  rw [tab_get] at ca cb
  have ba := YB.out i (by omega)
  have bb := YB.out (i + 1) (by omega)
  generalize y i = u at *
  generalize y (i + 1) = v at *
  go_wp2_with fail
  go_region
  go_wp2_with fail
  have hO7 := (hY.set (i + 1) (v + u) (by rw [tab_len]; omega)).drew
  rw [tab_set] at hO7
  have hK10 := (hKw.setAt (i := i + 1) hpw (.int .i64 (v + u))).drew
  have hX7 : Rd (w6.setCell ⟨py, i + 1, none⟩ (.int .i64 (v + u))).drew px 0 (tab n x) := (hX6.other (by omega)).drewN 1
  refine (delete_one py n i (up y (i + 1) (v + u)) _ w hO7 hpw hK10 (by omega) (by omega)).mono ?_
  rintro e w7 ⟨rfl, hD, hK11, hRR⟩
  have hX8 := hRR px 0 _ (by omega) hX7
  rw [DT.out] at hD
  clear hRR hX7 hK10 hO7 hKw hX6 hY ca cb fb
  go_wp2_with fail
  refine (equal_yes x _ _ _ _ _ _ n _ (by omega) hD.rd hX8).mono ?_
  rintro e w8 ⟨rfl, hd⟩
  have hK12 := hK11.trans hd.kept
  clear hd hX8 hD hK11
  go_wp2
  go_ret
  exact ⟨rfl, hK12⟩
set_option maxRecDepth 100000 in
set_option maxHeartbeats 4000000 in
theorem units_midB (c r total : Int) (p off n cap : Nat) (i0 k0 : Int) (g : Nat → Int) (w : World) (h : UnOk c r total n g) (hR : Rd w p off (tab n g)) (n1 : 1 ≤ n) (n39 : n < 40) (cA : sumTo g n < total) (cB : unC (c - r) total g n = c - r) :
    Calls Try.prog 6 #[.int .i64 c, .int .i64 r, .int .i64 total, .slice (some ⟨p, off, none⟩) n cap, .int .i64 i0, .int .i64 k0] w fun e w' => e = .returned (.bool true) ∧ Kept w w' := by
  obtain ⟨c0, c1, r0, rc, t1, t2, n40, hg⟩ := id h
  have UO := Lib.hid h
  have HG := Lib.hid hg
  have PB := Lib.hid (fun j (hj : j < n) => unP_bd (c - r) total g n j t1 (by omega) (fun t ht => (hg t ht).1) hj)
  have XS := Lib.hid (show sumTo (dif (unC (c - r) total g)) n = unC (c - r) total g n by rw [sum_dif, unC_zero _ _ _ t1]; omega)
  have xb := unC_bd (c - r) total g n t1 (by omega) (fun t ht => (hg t ht).1)
  have tS : decide (total ≤ sumTo g n) = false := by simp; omega
  have tX : (unC (c - r) total g n == c - r) = true := by rw [beq_iff_eq]; exact cB
  have tG : decide (c - r < unC (c - r) total g n) = false := by simp; omega
  generalize hX : unC (c - r) total g n = X at *
  generalize hS : sumTo g n = S at *
  have HSS := Lib.hid hS
  clear h hg cA cB xb hX hS
  have hL := (Own.lit (w := w) (l := [3, 9]) (t := 3) rfl).rd
  rw [← lit39_tab] at hL
  go_enter Try.func6, Try.ntmps6
  go_wp2_with fail
  refine (units_yes 100 0 10 _ 2 _ lit39 _ un_lit (Arg.of hL)).mono ?_
  rintro e w1 ⟨q, _, rfl, hO, hK⟩
  have hK1 := ((Kept.refl w).alloc _).trans hK
  clear hL hK
  go_wp2_with fail
  have hQ := (Own.lit (w := w1) (l := [30, 70]) (t := 3) rfl).rd
  rw [← un_100] at hQ
  refine (equal_yes (dif (unC (100 - 0) 10 lit39)) _ _ _ _ _ _ 2 _ (by omega) (hO.rd.later ((Kept.refl w1).alloc _)) hQ).mono ?_
  rintro e w2 ⟨rfl, hd⟩
  have hK2 := (hK1.alloc _).trans hd.kept
  clear hO hK1 hd hQ
  have hR2 := hR.later hK2
  have hA2 := Arg.of hR2
  clear hR
  go_wp2_with fail
  refine (units_yes _ _ _ _ n _ g _ UO.out hA2).mono ?_
  rintro e w3 ⟨px, hpx, rfl, hX, hK3⟩
  have hK4 := hK2.trans hK3
  have hR3 := hR2.later hK3
  clear hA2 hK2 hpx hR2
  generalize hx : dif (unC (c - r) total g) = x at *
  go_wp2_with fail
  refine (sum_any x _ _ n _ _ (by omega) (fun j hj => by have := PB.out j hj; omega) hX.rd).mono ?_
  rintro e w9 ⟨rfl, rfl⟩
  rw [XS.out]
  go_wp2_with fail
  refine (sum_any g _ _ n _ _ (by omega) (fun j hj => by have := HG.out j hj; omega) hR3).mono ?_
  rintro e w9 ⟨rfl, rfl⟩
  rw [HSS.out]
  go_wp2_with fail
  refine (sum_any x _ _ n _ _ (by omega) (fun j hj => by have := PB.out j hj; omega) hX.rd).mono ?_
  rintro e w9 ⟨rfl, rfl⟩
  rw [XS.out]
  go_wp2_with fail
  refine (sum_any g _ _ n _ _ (by omega) (fun j hj => by have := HG.out j hj; omega) hR3).mono ?_
  rintro e w9 ⟨rfl, rfl⟩
  rw [HSS.out]
  have nz : (((n : Nat) : Int) == 0) = false := by rw [beq_eq_false_iff_ne]; omega
  have n4 : (((n : Nat) : Int) == 40) = false := by rw [beq_eq_false_iff_ne]; omega
  go_wp2_with fail
  refine (within_any _ _ _ (by omega) (by omega)).mono ?_
  rintro e w9 ⟨i1, i2, i3, rfl, rfl⟩
  obtain ⟨i, rfl⟩ := Int.eq_ofNat_of_zero_le i2
  have hi : i < n := by omega
  have gi := HG.out i hi
  have hc := hR3.cell i (by rw [tab_len]; exact hi)
  rw [tab_get] at hc
  go_wp2_with fail
  refine (within_any _ _ _ (by omega) (by omega)).mono ?_
  rintro e w9 ⟨k, ka, kb, rfl, rfl⟩
  have UT := Lib.hid (UO.out.two i k hi (by omega) ka (by omega))
  go_wp2_with fail
  refine (clone_any p off n cap g _ n1 (by omega) hR3).mono ?_
  rintro e w4 ⟨q4, c4, hq4, rfl, hG4, hK5⟩
  go_wp2_with fail
  refine (insert_any q4 c4 n i k g w4 w3 hG4 hK5 hi (by omega)).mono ?_
  rintro e w5 ⟨q5, c5, hq5, rfl, hO5, hK6⟩
  have hX5 := hX.later hK6
  have hpx3 := hX.lt
  clear hG4 hK5 hX hq4 hc hR3
  have cn := hO5.cell (i + 1) (by rw [tab_len]; omega)
  have fn := hO5.free (i + 1) (by rw [tab_len]; omega)
  rw [tab_get, ins_next] at cn
  have ST := Lib.hid (show Own (w5.setCell ⟨q5, i + 1, none⟩ (.int .i64 (g i - k))) q5 (tab (n + 1) (twoG g i k)) by
    have := hO5.set (i + 1) (g i - k) (by rw [tab_len]; omega)
    rw [tab_set, ins_two] at this
    exact this)
  have KT := Lib.hid (hK6.setAt (i := i + 1) hq5 (.int .i64 (g i - k)))
  have hq5x : px < q5 := by omega
  have XT := Lib.hid (show Rd (w5.setCell ⟨q5, i + 1, none⟩ (.int .i64 (g i - k))) px 0 (tab n x) from hX5.rd.other (by omega))
  have i5 : ((i : Int) + 1).toNat = i + 1 := by omega
  clear hO5 hK6
  generalize hgi : g i = t at *
  go_wp2_with fail
  have hA6 := Arg.of ST.out.rd
  refine (units_yes _ _ _ _ (n + 1) _ (twoG g i k) _ UT.out hA6).mono ?_
  rintro e w6 ⟨py, hpy, rfl, hY, hK8⟩
  have hX6 := XT.out.later hK8
  have hK9 := KT.out.trans hK8
  have hpx6 : px < py := by have := XT.out.lt; omega
  have hpw : w.heap.size ≤ py := by have := KT.out.le; have := hK4.le; omega
  have hKw := hK4.trans hK9
  clear hA6 hK8 XT ST KT cn fn hX5 hK9 hK4
  have YB := Lib.hid (fun j (hj : j < n + 1) => unP_bd (c - r) total (twoG g i k) (n + 1) j t1 (by omega) (fun t ht => (UT.out.g t ht).1) hj)
  have DT := Lib.hid (del_two (c - r) total g i n k)
  rw [hx] at DT
  generalize dif (unC (c - r) total (twoG g i k)) = y at *
  have ca := hY.cell i (by rw [tab_len]; omega)
  have cb := hY.cell (i + 1) (by rw [tab_len]; omega)
  have fb := hY.free (i + 1) (by rw [tab_len]; omega)
  rw [tab_get] at ca cb
  have ba := YB.out i (by omega)
  have bb := YB.out (i + 1) (by omega)
  generalize y i = u at *
  generalize y (i + 1) = v at *
  go_wp2_with fail
  go_region
  go_wp2_with fail
  have hO7 := (hY.set (i + 1) (v + u) (by rw [tab_len]; omega)).drew
  rw [tab_set] at hO7
  have hK10 := (hKw.setAt (i := i + 1) hpw (.int .i64 (v + u))).drew
  have hX7 : Rd (w6.setCell ⟨py, i + 1, none⟩ (.int .i64 (v + u))).drew px 0 (tab n x) := (hX6.other (by omega)).drewN 1
  refine (delete_one py n i (up y (i + 1) (v + u)) _ w hO7 hpw hK10 (by omega) (by omega)).mono ?_
  rintro e w7 ⟨rfl, hD, hK11, hRR⟩
  have hX8 := hRR px 0 _ (by omega) hX7
  rw [DT.out] at hD
  clear hRR hX7 hK10 hO7 hKw hX6 hY ca cb fb
  go_wp2_with fail
  refine (equal_yes x _ _ _ _ _ _ n _ (by omega) hD.rd hX8).mono ?_
  rintro e w8 ⟨rfl, hd⟩
  have hK12 := hK11.trans hd.kept
  clear hd hX8 hD hK11
  go_wp2
  go_ret
  exact ⟨rfl, hK12⟩
set_option maxRecDepth 100000 in
set_option maxHeartbeats 4000000 in
theorem units_midC (c r total : Int) (p off n cap : Nat) (i0 k0 : Int) (g : Nat → Int) (w : World) (h : UnOk c r total n g) (hR : Rd w p off (tab n g)) (n1 : 1 ≤ n) (n39 : n < 40) (cA : sumTo g n < total) (cB : ¬ unC (c - r) total g n = c - r) :
    Calls Try.prog 6 #[.int .i64 c, .int .i64 r, .int .i64 total, .slice (some ⟨p, off, none⟩) n cap, .int .i64 i0, .int .i64 k0] w fun e w' => e = .returned (.bool true) ∧ Kept w w' := by
  obtain ⟨c0, c1, r0, rc, t1, t2, n40, hg⟩ := id h
  have UO := Lib.hid h
  have HG := Lib.hid hg
  have PB := Lib.hid (fun j (hj : j < n) => unP_bd (c - r) total g n j t1 (by omega) (fun t ht => (hg t ht).1) hj)
  have XS := Lib.hid (show sumTo (dif (unC (c - r) total g)) n = unC (c - r) total g n by rw [sum_dif, unC_zero _ _ _ t1]; omega)
  have xb := unC_bd (c - r) total g n t1 (by omega) (fun t ht => (hg t ht).1)
  have tS : decide (total ≤ sumTo g n) = false := by simp; omega
  have tX : (unC (c - r) total g n == c - r) = false := by rw [beq_eq_false_iff_ne]; exact cB
  have tG : decide (c - r < unC (c - r) total g n) = false := by simp; omega
  generalize hX : unC (c - r) total g n = X at *
  generalize hS : sumTo g n = S at *
  have HSS := Lib.hid hS
  clear h hg cA cB xb hX hS
  have hL := (Own.lit (w := w) (l := [3, 9]) (t := 3) rfl).rd
  rw [← lit39_tab] at hL
  go_enter Try.func6, Try.ntmps6
  go_wp2_with fail
  refine (units_yes 100 0 10 _ 2 _ lit39 _ un_lit (Arg.of hL)).mono ?_
  rintro e w1 ⟨q, _, rfl, hO, hK⟩
  have hK1 := ((Kept.refl w).alloc _).trans hK
  clear hL hK
  go_wp2_with fail
  have hQ := (Own.lit (w := w1) (l := [30, 70]) (t := 3) rfl).rd
  rw [← un_100] at hQ
  refine (equal_yes (dif (unC (100 - 0) 10 lit39)) _ _ _ _ _ _ 2 _ (by omega) (hO.rd.later ((Kept.refl w1).alloc _)) hQ).mono ?_
  rintro e w2 ⟨rfl, hd⟩
  have hK2 := (hK1.alloc _).trans hd.kept
  clear hO hK1 hd hQ
  have hR2 := hR.later hK2
  have hA2 := Arg.of hR2
  clear hR
  go_wp2_with fail
  refine (units_yes _ _ _ _ n _ g _ UO.out hA2).mono ?_
  rintro e w3 ⟨px, hpx, rfl, hX, hK3⟩
  have hK4 := hK2.trans hK3
  have hR3 := hR2.later hK3
  clear hA2 hK2 hpx hR2
  generalize hx : dif (unC (c - r) total g) = x at *
  go_wp2_with fail
  refine (sum_any x _ _ n _ _ (by omega) (fun j hj => by have := PB.out j hj; omega) hX.rd).mono ?_
  rintro e w9 ⟨rfl, rfl⟩
  rw [XS.out]
  go_wp2_with fail
  refine (sum_any g _ _ n _ _ (by omega) (fun j hj => by have := HG.out j hj; omega) hR3).mono ?_
  rintro e w9 ⟨rfl, rfl⟩
  rw [HSS.out]
  go_wp2_with fail
  refine (sum_any x _ _ n _ _ (by omega) (fun j hj => by have := PB.out j hj; omega) hX.rd).mono ?_
  rintro e w9 ⟨rfl, rfl⟩
  rw [XS.out]
  have nz : (((n : Nat) : Int) == 0) = false := by rw [beq_eq_false_iff_ne]; omega
  have n4 : (((n : Nat) : Int) == 40) = false := by rw [beq_eq_false_iff_ne]; omega
  go_wp2_with fail
  refine (within_any _ _ _ (by omega) (by omega)).mono ?_
  rintro e w9 ⟨i1, i2, i3, rfl, rfl⟩
  obtain ⟨i, rfl⟩ := Int.eq_ofNat_of_zero_le i2
  have hi : i < n := by omega
  have gi := HG.out i hi
  have hc := hR3.cell i (by rw [tab_len]; exact hi)
  rw [tab_get] at hc
  go_wp2_with fail
  refine (within_any _ _ _ (by omega) (by omega)).mono ?_
  rintro e w9 ⟨k, ka, kb, rfl, rfl⟩
  have UT := Lib.hid (UO.out.two i k hi (by omega) ka (by omega))
  go_wp2_with fail
  refine (clone_any p off n cap g _ n1 (by omega) hR3).mono ?_
  rintro e w4 ⟨q4, c4, hq4, rfl, hG4, hK5⟩
  go_wp2_with fail
  refine (insert_any q4 c4 n i k g w4 w3 hG4 hK5 hi (by omega)).mono ?_
  rintro e w5 ⟨q5, c5, hq5, rfl, hO5, hK6⟩
  have hX5 := hX.later hK6
  have hpx3 := hX.lt
  clear hG4 hK5 hX hq4 hc hR3
  have cn := hO5.cell (i + 1) (by rw [tab_len]; omega)
  have fn := hO5.free (i + 1) (by rw [tab_len]; omega)
  rw [tab_get, ins_next] at cn
  have ST := Lib.hid (show Own (w5.setCell ⟨q5, i + 1, none⟩ (.int .i64 (g i - k))) q5 (tab (n + 1) (twoG g i k)) by
    have := hO5.set (i + 1) (g i - k) (by rw [tab_len]; omega)
    rw [tab_set, ins_two] at this
    exact this)
  have KT := Lib.hid (hK6.setAt (i := i + 1) hq5 (.int .i64 (g i - k)))
  have hq5x : px < q5 := by omega
  have XT := Lib.hid (show Rd (w5.setCell ⟨q5, i + 1, none⟩ (.int .i64 (g i - k))) px 0 (tab n x) from hX5.rd.other (by omega))
  have i5 : ((i : Int) + 1).toNat = i + 1 := by omega
  clear hO5 hK6
  generalize hgi : g i = t at *
  go_wp2_with fail
  have hA6 := Arg.of ST.out.rd
  refine (units_yes _ _ _ _ (n + 1) _ (twoG g i k) _ UT.out hA6).mono ?_
  rintro e w6 ⟨py, hpy, rfl, hY, hK8⟩
  have hX6 := XT.out.later hK8
  have hK9 := KT.out.trans hK8
  have hpx6 : px < py := by have := XT.out.lt; omega
  have hpw : w.heap.size ≤ py := by have := KT.out.le; have := hK4.le; omega
  have hKw := hK4.trans hK9
  clear hA6 hK8 XT ST KT cn fn hX5 hK9 hK4
  have YB := Lib.hid (fun j (hj : j < n + 1) => unP_bd (c - r) total (twoG g i k) (n + 1) j t1 (by omega) (fun t ht => (UT.out.g t ht).1) hj)
  have DT := Lib.hid (del_two (c - r) total g i n k)
  rw [hx] at DT
  generalize dif (unC (c - r) total (twoG g i k)) = y at *
  have ca := hY.cell i (by rw [tab_len]; omega)
  have cb := hY.cell (i + 1) (by rw [tab_len]; omega)
  have fb := hY.free (i + 1) (by rw [tab_len]; omega)
  rw [tab_get] at ca cb
  have ba := YB.out i (by omega)
  have bb := YB.out (i + 1) (by omega)
  generalize y i = u at *
  generalize y (i + 1) = v at *
  go_wp2_with fail
  go_region
  go_wp2_with fail
  have hO7 := (hY.set (i + 1) (v + u) (by rw [tab_len]; omega)).drew
  rw [tab_set] at hO7
  have hK10 := (hKw.setAt (i := i + 1) hpw (.int .i64 (v + u))).drew
  have hX7 : Rd (w6.setCell ⟨py, i + 1, none⟩ (.int .i64 (v + u))).drew px 0 (tab n x) := (hX6.other (by omega)).drewN 1
  refine (delete_one py n i (up y (i + 1) (v + u)) _ w hO7 hpw hK10 (by omega) (by omega)).mono ?_
  rintro e w7 ⟨rfl, hD, hK11, hRR⟩
  have hX8 := hRR px 0 _ (by omega) hX7
  rw [DT.out] at hD
  clear hRR hX7 hK10 hO7 hKw hX6 hY ca cb fb
  go_wp2_with fail
  refine (equal_yes x _ _ _ _ _ _ n _ (by omega) hD.rd hX8).mono ?_
  rintro e w8 ⟨rfl, hd⟩
  have hK12 := hK11.trans hd.kept
  clear hd hX8 hD hK11
  go_wp2
  go_ret
  exact ⟨rfl, hK12⟩
set_option maxRecDepth 100000 in
set_option maxHeartbeats 4000000 in
theorem units_bad (c r total : Int) (a : Option Addr) (n cap : Nat) (i0 k0 : Int) (g : Nat → Int) (w : World) (hn : n ≤ 4000000000000000000) (h : ¬ unE c r total n g = 0) (hA : Arg w a n g) :
    Calls Try.prog 6 #[.int .i64 c, .int .i64 r, .int .i64 total, .slice a n cap, .int .i64 i0, .int .i64 k0] w fun e w' => e = .returned (.bool true) ∧ Kept w w' := by
  have nb : (unE c r total n g != 0) = true := by rw [bne_iff_ne]; exact h
  have HH := Lib.hid h
  have hL := (Own.lit (w := w) (l := [3, 9]) (t := 3) rfl).rd
  rw [← lit39_tab] at hL
  clear h
  go_enter Try.func6, Try.ntmps6
  go_wp2_with fail
  refine (units_yes 100 0 10 _ 2 _ lit39 _ un_lit (Arg.of hL)).mono ?_
  rintro e w1 ⟨q, _, rfl, hO, hK⟩
  have hK1 := ((Kept.refl w).alloc _).trans hK
  clear hL hK
  go_wp2_with fail
  have hQ := (Own.lit (w := w1) (l := [30, 70]) (t := 3) rfl).rd
  rw [← un_100] at hQ
  refine (equal_yes (dif (unC (100 - 0) 10 lit39)) _ _ _ _ _ _ 2 _ (by omega) (hO.rd.later ((Kept.refl w1).alloc _)) hQ).mono ?_
  rintro e w2 ⟨rfl, hd⟩
  have hK2 := (hK1.alloc _).trans hd.kept
  clear hO hK1 hd hQ
  go_wp2_with fail
  refine (units_no _ _ _ _ n _ g _ hn HH.out (hA.later hK2)).mono ?_
  rintro e w3 ⟨rfl, hK3⟩
  go_wp2
  go_ret
  exact ⟨rfl, hK2.trans hK3⟩
theorem unitsSum_walk (c r total : Int) (a : Option Addr) (n cap : Nat) (g : Nat → Int) (i0 k0 : Int) (w : World) (hn : n ≤ 4000000000000000000) (hA : Arg w a n g) :
    Calls Try.prog 6 #[.int .i64 c, .int .i64 r, .int .i64 total, .slice a n cap, .int .i64 i0, .int .i64 k0] w fun e w' => e = .returned (.bool true) ∧ Kept w w' := by
  by_cases he : unE c r total n g = 0
  · have h := unE_iff he
    by_cases h0 : n = 0
    · subst h0
      by_cases cB : c - r = 0
      · exact units_0B c r total a cap i0 k0 g w h cB
      · exact units_0C c r total a cap i0 k0 g w h cB
    · obtain ⟨p, off, rfl, hR⟩ := hA.at (by omega)
      have n40 := h.n40
      by_cases h4 : n = 40
      · by_cases cA : total ≤ sumTo g n
        · exact units_40A c r total p off n cap i0 k0 g w h hR h4 cA
        · by_cases cB : unC (c - r) total g n = c - r
          · exact units_40B c r total p off n cap i0 k0 g w h hR h4 (by omega) cB
          · exact units_40C c r total p off n cap i0 k0 g w h hR h4 (by omega) cB
      · by_cases cA : total ≤ sumTo g n
        · exact units_midA c r total p off n cap i0 k0 g w h hR (by omega) (by omega) cA
        · by_cases cB : unC (c - r) total g n = c - r
          · exact units_midB c r total p off n cap i0 k0 g w h hR (by omega) (by omega) (by omega) cB
          · exact units_midC c r total p off n cap i0 k0 g w h hR (by omega) (by omega) (by omega) cB
  · exact units_bad c r total a n cap i0 k0 g w hn he hA

end Go.Proofs.Ytcelkgbpgpgpjaa
