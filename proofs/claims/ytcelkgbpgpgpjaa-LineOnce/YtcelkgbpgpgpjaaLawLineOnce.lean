/-
  The law LineOnce returns true: with one period every method writes off everything, and an amount of zero yields zeros. No condition.
-/
import Derived.Test.YtcelkgbpgpgpjaaNWalkA
namespace Go.Proofs.Ytcelkgbpgpgpjaa
open Go.RowKit

theorem st_921 : tab 1 (dif (stC (9 - 2) 1)) = [7] := by decide
theorem st_one (a : Int) : tab 1 (dif (stC a 1)) = tab 1 (fun _ => a) := tab_congr 1 (fun j hj => by
  obtain rfl : j = 0 := by omega
  unfold dif
  rw [stC_zero a 1 (by omega), show 0 + 1 = 1 from rfl, stC_all a 1 (by omega)]; omega)
theorem dg_one (a : Int) : tab 1 (dif (dgC a 1)) = tab 1 (fun _ => a) := tab_congr 1 (fun j hj => by
  obtain rfl : j = 0 := by omega
  unfold dif
  rw [dgC_zero a 1 (by omega), show 0 + 1 = 1 from rfl, dgC_all a 1 (by omega)]; omega)
theorem fl_one (c r rate : Int) : tab 1 (flP c r rate 1) = tab 1 (fun _ => c - r) := tab_congr 1 (fun j hj => by
  obtain rfl : j = 0 := by omega
  exact flP_once c r rate)
theorem st_none (c : Int) (n : Nat) (n1 : 1 ≤ n) : tab n (dif (stC (c - c) n)) = tab n (fun _ => 0) := tab_congr n (fun j _ => by
  unfold dif; rw [Int.sub_self, stC_none n _ n1, stC_none n _ n1]; omega)
theorem dg_none (c : Int) (n : Nat) (n1 : 1 ≤ n) : tab n (dif (dgC (c - c) n)) = tab n (fun _ => 0) := tab_congr n (fun j _ => by
  unfold dif; rw [Int.sub_self, dgC_none n _ n1, dgC_none n _ n1]; omega)
theorem fl_none (c rate : Int) (n : Nat) (c0 : 0 ≤ c) (r0 : 0 ≤ rate) : tab n (flP c c rate n) = tab n (fun _ => 0) := tab_congr n (fun j _ => flP_none c rate n j c0 r0)
/-- The two rows that the law makes. -/
def AllNone (w : World) (a : Int) (n : Nat) (u v : Value) (w' : World) : Prop :=
  ∃ p q : Nat, u = .slice (some ⟨p, 0, none⟩) 1 1 ∧ v = .slice (some ⟨q, 0, none⟩) n n ∧ Own w' p (tab 1 (fun _ => a)) ∧ Own w' q (tab n (fun _ => 0)) ∧ Kept w w'
theorem all_none_a (w : World) (a : Int) (n : Nat) : AllNone w a n (.slice (some ⟨w.heap.size, 0, none⟩) 1 1) (.slice (some ⟨w.heap.size + 1, 0, none⟩) n n)
    ((w.alloc (.cells #[.int .i64 a] 3)).alloc (.cells (zs n) 3)).drew :=
  ⟨_, _, rfl, rfl, ((Own.lit (w := w) (l := [a]) (t := 3) rfl).later ((Kept.refl _).alloc _)).drew, by rw [← tab_zero]; exact (Own.made (by simp)).drew, (((Kept.refl w).alloc _).alloc _).drew⟩
theorem all_none_b (w : World) (a : Int) (n : Nat) : AllNone w a n (.slice (some ⟨w.heap.size + 1, 0, none⟩) 1 1) (.slice (some ⟨w.heap.size, 0, none⟩) n n)
    ((w.alloc (.cells (zs n) 3)).alloc (.cells #[.int .i64 a] 3)).drew :=
  ⟨_, _, rfl, rfl, (Own.lit (l := [a]) (t := 3) (by simp)).drew, by rw [← tab_zero]; exact ((Own.made rfl).later ((Kept.refl _).alloc _)).drew, (((Kept.refl w).alloc _).alloc _).drew⟩

set_option maxRecDepth 100000 in
set_option maxHeartbeats 4000000 in
theorem lineOnce_walk (c0 r0 t0 m0 : Int) (w : World) :
    Calls Try.prog 7 #[.int .i64 c0, .int .i64 r0, .int .i64 t0, .int .i64 m0] w fun e w' => e = .returned (.bool true) ∧ Kept w w' := by
  go_enter Try.func7, Try.ntmps7
  go_wp2_with fail
  refine (straight_yes 9 2 1 _ (by decide)).mono ?_
  rintro e w1 ⟨p, hp, rfl, hO, hK⟩
  go_wp2_with fail
  have hQ := (Own.lit (w := w1) (l := [7]) (t := 3) rfl).rd
  rw [← st_921] at hQ
  refine (equal_yes (dif (stC (9 - 2) 1)) _ _ _ _ _ _ 1 _ (by omega) (hO.rd.later ((Kept.refl w1).alloc _)) hQ).mono ?_
  rintro e w2 ⟨rfl, hd⟩
  have hK2 := (hK.alloc _).trans hd.kept
  clear hO hK hd hQ hp
  go_wp2_with fail
  refine (within_any _ _ _ (by omega) (by omega)).mono ?_
  rintro e w3 ⟨c, c1, c2, rfl, rfl⟩
  go_wp2_with fail
  refine (within_any _ _ _ (by omega) (by omega)).mono ?_
  rintro e w3 ⟨r, r1, r2, rfl, rfl⟩
  go_wp2_with fail
  refine (within_any _ _ _ (by omega) (by omega)).mono ?_
  rintro e w3 ⟨y, y1, y2, rfl, rfl⟩
  go_wp2_with fail
  refine (within_any _ _ _ (by omega) (by omega)).mono ?_
  rintro e w3 ⟨t, t1, t2, rfl, rfl⟩
  obtain ⟨n, hn⟩ := Int.eq_ofNat_of_zero_le (show 0 ≤ 1 + t by omega)
  obtain rfl : t = (n : Int) - 1 := by omega
  clear hn
  have n1 : 1 ≤ n := by omega
  have H1 := Lib.hid ((okA_iff c r 1).2 ⟨by omega, by omega, by omega, by omega, by omega, by omega⟩)
  have H2 := Lib.hid ((okA_iff c c n).2 ⟨by omega, by omega, by omega, by omega, by omega, by omega⟩)
  have R := Lib.hid ((rtB_iff y).2 ⟨by omega, by omega⟩)
  go_wp2_with fail
  rw [show (1 + ((n : Int) - 1)) = (n : Int) by omega]
  refine (straight_yes c r 1 _ H1.out).mono ?_
  rintro e w4 ⟨px, _, rfl, hX, hK4⟩
  rw [st_one] at hX
  go_wp2_with fail
  refine (digits_yes c r 1 _ H1.out).mono ?_
  rintro e w5 ⟨py, _, rfl, hY, hK5⟩
  rw [dg_one] at hY
  replace hX := hX.later hK5
  replace hK2 := (hK2.trans hK4).trans hK5
  clear hK4 hK5
  go_wp2_with fail
  refine (falling_yes c r y 1 _ H1.out R.out).mono ?_
  rintro e w6 ⟨pz, _, rfl, hZ, hK6⟩
  rw [fl_one] at hZ
  replace hX := hX.later hK6
  replace hY := hY.later hK6
  replace hK2 := hK2.trans hK6
  clear hK6
  go_wp2_with fail
  refine (straight_yes c c n _ H2.out).mono ?_
  rintro e w7 ⟨pu, _, rfl, hU, hK7⟩
  rw [st_none c n n1] at hU
  replace hX := hX.later hK7
  replace hY := hY.later hK7
  replace hZ := hZ.later hK7
  replace hK2 := hK2.trans hK7
  clear hK7
  go_wp2_with fail
  refine (digits_yes c c n _ H2.out).mono ?_
  rintro e w8 ⟨pv, _, rfl, hV, hK8⟩
  rw [dg_none c n n1] at hV
  replace hX := hX.later hK8
  replace hY := hY.later hK8
  replace hZ := hZ.later hK8
  replace hU := hU.later hK8
  replace hK2 := hK2.trans hK8
  clear hK8
  go_wp2_with fail
  refine (falling_yes c c y n _ H2.out R.out).mono ?_
  rintro e w9 ⟨pw, _, rfl, hW, hK9⟩
  rw [fl_none c y n c1 y1] at hW
  replace hX := (hX.later hK9)
  replace hY := (hY.later hK9)
  replace hZ := (hZ.later hK9)
  replace hU := (hU.later hK9)
  replace hV := (hV.later hK9)
  replace hK2 := hK2.trans hK9
  clear hK9 H1 H2 R
  have mk := make_ints n (by omega)
  go_wp2_with fail
  go_cut [23, 24] (fun a b wx => AllNone w9 (c - r) n a b wx)
  case first =>
    clear hX hY hZ hU hV hW hK2
    go_region
    all_goals go_wp2_with fail
    all_goals go_meet
    · exact all_none_a w9 (c - r) n
    · exact all_none_b w9 (c - r) n
  case rest =>
    obtain ⟨pa, pn, rfl, rfl, hA, hN, hK⟩ := hcut
    replace hX := hX.later hK
    replace hY := hY.later hK
    replace hZ := hZ.later hK
    replace hU := hU.later hK
    replace hV := hV.later hK
    replace hW := hW.later hK
    replace hK2 := hK2.trans hK
    clear hK mk
    go_wp2_with fail
    refine (equal_yes (fun _ => c - r) _ _ _ _ _ _ 1 _ (by omega) hX.rd hA.rd).mono ?_
    rintro e v0 ⟨rfl, hd⟩
    replace hY := hY.later hd.kept
    replace hZ := hZ.later hd.kept
    replace hU := hU.later hd.kept
    replace hV := hV.later hd.kept
    replace hW := hW.later hd.kept
    replace hA := hA.later hd.kept
    replace hN := hN.later hd.kept
    replace hK2 := hK2.trans hd.kept
    clear hd hX
    go_wp2_with fail
    refine (equal_yes (fun _ => c - r) _ _ _ _ _ _ 1 _ (by omega) hY.rd hA.rd).mono ?_
    rintro e v1 ⟨rfl, hd⟩
    replace hZ := hZ.later hd.kept
    replace hU := hU.later hd.kept
    replace hV := hV.later hd.kept
    replace hW := hW.later hd.kept
    replace hA := hA.later hd.kept
    replace hN := hN.later hd.kept
    replace hK2 := hK2.trans hd.kept
    clear hd hY
    go_wp2_with fail
    refine (equal_yes (fun _ => c - r) _ _ _ _ _ _ 1 _ (by omega) hZ.rd hA.rd).mono ?_
    rintro e v2 ⟨rfl, hd⟩
    replace hU := hU.later hd.kept
    replace hV := hV.later hd.kept
    replace hW := hW.later hd.kept
    replace hN := hN.later hd.kept
    replace hK2 := hK2.trans hd.kept
    clear hd hZ
    go_wp2_with fail
    refine (equal_yes (fun _ => 0) _ _ _ _ _ _ n _ (by omega) hU.rd hN.rd).mono ?_
    rintro e v3 ⟨rfl, hd⟩
    replace hV := hV.later hd.kept
    replace hW := hW.later hd.kept
    replace hN := hN.later hd.kept
    replace hK2 := hK2.trans hd.kept
    clear hd hU
    go_wp2_with fail
    refine (equal_yes (fun _ => 0) _ _ _ _ _ _ n _ (by omega) hV.rd hN.rd).mono ?_
    rintro e v4 ⟨rfl, hd⟩
    replace hW := hW.later hd.kept
    replace hN := hN.later hd.kept
    replace hK2 := hK2.trans hd.kept
    clear hd hV
    go_wp2_with fail
    refine (equal_yes (fun _ => 0) _ _ _ _ _ _ n _ (by omega) hW.rd hN.rd).mono ?_
    rintro e v5 ⟨rfl, hd⟩
    replace hK2 := hK2.trans hd.kept
    clear hd hW
    go_wp2
    go_ret
    exact ⟨ret_bool (by simp), hK2⟩

end Go.Proofs.Ytcelkgbpgpgpjaa
