/-
  The law SplitAlone returns true: who has no weight has no part; who alone has weight has all. Condition: the row is no longer than the memory.
-/
import Derived.Test.YtkbbofpjelgiiabLawSplitSum
namespace Go.Proofs.Ytkbbofpjelgiiab
open Go.RowKit

theorem by_07 (d : Nat → Int) (h : Ordered (keyOf (rs 7 (lit [0, 3]) 3)) 2 d) : tab 2 (fun i => sg 7 (addU d (bs 7 (lit [0, 3]) 3) 0 i)) = [0, 7] := by
  rw [addU_eq h (ordered_idn _ 2 (by decide)) (by omega)]
  decide
/-- Who has no weight has no part. -/
theorem ByOk.zero {amount : Int} {n u : Nat} {wt d : Nat → Int} (h : ByOk amount n u wt d) (i : Nat) (hi : i < n) (z : wt i = 0) : byV amount n u wt d i = 0 := by
  have b : bs (amount.natAbs : Int) wt (sumTo wt n) i = 0 := by unfold bs; rw [z]; simp
  have r : rs (amount.natAbs : Int) wt (sumTo wt n) i = 0 := by unfold rs; rw [z]; simp
  unfold byV
  rcases h.part i hi with ⟨_, p⟩ | ⟨_, p, q⟩
  · rw [p, b]; unfold sg; split <;> rfl
  · omega
theorem sum_only (g : Nat → Int) (n i : Nat) (h : ∀ j, j < n → j ≠ i → g j = 0) : sumTo g n = if i < n then g i else 0 := by
  induction n with
  | zero => simp [sumTo]
  | succ n ih =>
    rw [sumTo, ih (fun j hj => h j (by omega))]
    by_cases e : i = n
    · subst e; rw [if_neg (by omega), if_pos (by omega)]; omega
    · rw [h n (by omega) (fun z => e z.symm)]
      by_cases c : i < n
      · rw [if_pos c, if_pos (by omega)]; omega
      · rw [if_neg c, if_neg (by omega)]; omega
/-- A row with one weight. -/
def one (i : Nat) (v : Int) : Nat → Int := up (fun _ => 0) i v
theorem one_sum (n i : Nat) (v : Int) (hi : i < n) : sumTo (one i v) n = v := by
  rw [sum_only (one i v) n i (fun j _ hj => up_ne _ _ hj), if_pos hi]; exact up_same _ _ _
theorem one_byE (amount : Int) (n i : Nat) (v : Int) (n40 : n ≤ 40) (hi : i < n) (v0 : 0 < v) (v1 : v ≤ 1000000) (ha : amB amount = true) : byE amount n (one i v) = 0 := by
  have hk : okWts (one i v) n = true := by
    rw [okWts_iff]
    intro j _
    unfold one up
    split
    · omega
    · show (0 : Int) ≤ 0 ∧ (0 : Int) ≤ 1000000; omega
  unfold byE
  rw [if_neg (by omega), if_neg (by rw [ha, hk]; simp), one_sum n i v hi, if_neg (by omega)]
theorem one_all {amount : Int} {n u i : Nat} {v : Int} {d : Nat → Int} (hi : i < n) (h : ByOk amount n u (one i v) d) : byV amount n u (one i v) d i = amount := by
  have s := h.sum
  rw [sum_only _ n i (fun j hj ne => h.zero j hj (up_ne _ _ ne)), if_pos hi] at s
  exact s

theorem Own.one {w : World} {n i p : Nat} {v : Int} {t : TypeId} (hp : w.heap.size = p) : Own (w.alloc (.cells ((zs n).setIfInBounds i (.int .i64 v)) t)) p (tab n (one i v)) := by
  subst hp
  refine ⟨by simp, fun j hj => ?_, fun j hj => ?_⟩
  · rw [tab_get]
    rw [tab_len] at hj
    have z := zs_cell n j hj
    have s := zs_size n
    unfold Proofs.Ytkbbofpjelgiiab.one up
    by_cases e : j = i
    · subst e; rw [if_pos rfl]; simp [s, hj]
    · rw [if_neg e]
      have e' : i ≠ j := fun q => e q.symm
      simp [e', z]
  · simp

set_option maxRecDepth 100000 in
set_option maxHeartbeats 4000000 in
theorem splitAlone_walk (amount : Int) (a : Option Addr) (n cap : Nat) (wt : Nat → Int) (t : Int) (w : World) (hn : n ≤ 4000000000000000000) (hA : Arg w a n wt) :
    Calls Try.prog 7 #[.int .i64 amount, .slice a n cap, .int .i64 t] w fun e w' => e = .returned (.bool true) ∧ Kept w w' := by
  go_enter Try.func7, Try.ntmps7
  go_wp2_with fail
  have h3 := (Own.lit (w := w) (l := [0, 3]) (t := 3) rfl).rd
  rw [← tab_lit [0, 3]] at h3
  refine (by_yes 7 _ 2 _ 0 (lit [0, 3]) _ (Arg.of h3) (by decide) (by decide)).mono ?_
  rintro e w1 ⟨p1, d1, hp1, rfl, hR1, hO1, hK1⟩
  have E1 := by_07 d1 hR1
  have hKa := ((Kept.refl w).alloc _).trans hK1
  have hO1' : Own w1 p1 [0, 7] := by rw [← E1]; exact hO1
  rw [← tab_lit [0, 7]] at hO1'
  have hQ := (Own.lit (w := w1) (l := [0, 7]) (t := 3) rfl).rd
  rw [← tab_lit [0, 7]] at hQ
  clear hO1 hR1 E1 h3 hK1
  go_wp2_with fail
  refine (equal_yes (lit [0, 7]) _ _ _ _ _ _ 2 _ (by omega) (hO1'.rd.later ((Kept.refl w1).alloc _)) hQ).mono ?_
  rintro e w2 ⟨rfl, hd⟩
  have hK2 := (hKa.alloc _).trans hd.kept
  have hA2 := hA.later hK2
  clear hO1' hKa hd hQ hA
  by_cases he : byE amount n wt = 0
  · obtain ⟨u, hu, hB⟩ := units_ex he
    obtain ⟨n40, hamb, h2, hz⟩ := byE_ok he
    have hw := (okWts_iff wt n).1 h2
    have HE := Lib.hid he
    have HU := Lib.hid hu
    have HB := Lib.hid hB
    have HM := Lib.hid hamb
    clear he hu hB h2 hz hamb
    go_wp2_with fail
    refine (by_yes amount _ n _ u wt _ hA2 HE.out HU.out).mono ?_
    rintro e w3 ⟨p, d, hp, rfl, hR, hO, hK⟩
    have OK := Lib.hid (HB.out d hR)
    have hK3 := hK2.trans hK
    have hA3 := hA2.later hK
    have n1 := OK.out.n1
    obtain ⟨wp, off, rfl, hWR⟩ := hA3.at n1
    have hO' : Own w3 p (tab n (byV amount n u wt d)) := hO
    have am := OK.out.am
    have HW := Lib.hid hw
    clear hR hO HB hA2 hA3 hw hK hK2 HU HE
    go_wp2_with fail
    go_loop [52] (fun i => ∃ j : Nat, j ≤ n ∧ i = .int .i64 j) (fun i => (n - intOf i).toNat)
    case atStart => exact ⟨0, by omega, rfl⟩
    case round =>
      obtain ⟨j, hj, rfl⟩ := hrel
      by_cases hlt : j < n
      · have hc := hWR.cell j (by rw [tab_len]; exact hlt)
        have hx := hO'.cell j (by rw [tab_len]; exact hlt)
        rw [tab_get] at hc hx
        by_cases z : wt j = 0
        · rw [z] at hc
          rw [OK.out.zero j hlt z] at hx
          clear z
          go_wp2
          go_round
          case rel => exact ⟨j + 1, by omega, by go_num⟩
          case measure => simp [intOf]; omega
        · have z1 : (wt j == 0) = false := by simpa using z
          have z2 : decide (wt j = 0) = false := by simpa using z
          generalize wt j = v at *
          clear z hx
          go_wp2
          go_round
          case rel => exact ⟨j + 1, by omega, by go_num⟩
          case measure => simp [intOf]; omega
      · obtain rfl : j = n := by omega
        clear hlt hj
        go_wp2_with fail
        refine (within_any _ _ _ (by omega) (by omega)).mono ?_
        rintro e w4 ⟨s, s0, s1, rfl, rfl⟩
        obtain ⟨i, rfl⟩ := Int.eq_ofNat_of_zero_le s0
        have hi : i < j := by omega
        have hc := hWR.cell i (by rw [tab_len]; exact hi)
        rw [tab_get] at hc
        have wlt := hWR.lt
        have hc2 := ((Kept.refl w3).alloc (.cells (zs j) 3)).rd.1 wp (off + i) wlt |>.trans hc
        have wne : wp ≠ w3.heap.size := by omega
        have wne' : w3.heap.size ≠ wp := by omega
        have wb := HW.out i hi
        have mk := make_ints j (by omega)
        have zc := zs_cell j i hi
        have zz := zs_size j
        generalize wt i = x at *
        have td : 0 ≤ x.tdiv 2 ∧ x.tdiv 2 ≤ 500000 := by rw [Int.tdiv_eq_ediv_of_nonneg wb.1]; omega
        go_wp2_with fail
        have hP := Own.one (w := w3) (n := j) (i := i) (v := 1 + x.tdiv 2) (t := 3) rfl
        have hK4 := hK3.alloc (.cells ((zs j).setIfInBounds i (.int .i64 (1 + x.tdiv 2))) 3)
        have v0 : 0 < 1 + x.tdiv 2 := by omega
        have v1 : 1 + x.tdiv 2 ≤ 1000000 := by omega
        generalize 1 + x.tdiv 2 = v at *
        have he := one_byE amount j i v n40 hi v0 v1 HM.out
        obtain ⟨u', hu, hB⟩ := units_ex he
        have HE := Lib.hid he
        have HU := Lib.hid hu
        have HB := Lib.hid hB
        clear he hu hB mk zc zz hc hc2 hK3 hWR hO' HW OK td wb wlt wne wne'
        refine (by_yes amount _ j _ u' (one i v) _ (Arg.of hP.rd) HE.out HU.out).mono ?_
        rintro e w5 ⟨q, d', hq, rfl, hR, hO, hK⟩
        have OK := Lib.hid (HB.out d' hR)
        have hK5 := hK4.trans hK
        have hO' : Own w5 q (tab j (byV amount j u' (one i v) d')) := hO
        have hy := hO'.cell i (by rw [tab_len]; exact hi)
        rw [tab_get, one_all hi OK.out] at hy
        have SU := Lib.hid OK.out.sum
        clear hR hO HB HU HE hP hK hK4
        go_wp2_with fail
        refine (sum_any (byV amount j u' (one i v) d') q 0 j j _ (by omega) (fun k hk => by have := OK.out.bd k hk; omega) hO'.rd).mono ?_
        rintro e w6 ⟨rfl, rfl⟩
        rw [SU.out]
        clear SU
        go_wp2
        go_ret
        exact ⟨ret_bool (by simp), hK5⟩
  · have nb : (byE amount n wt != 0) = true := by rw [bne_iff_ne]; exact he
    have HE := Lib.hid he
    clear he
    go_wp2_with fail
    refine (by_no amount _ n _ wt _ hn hA2 HE.out).mono ?_
    rintro e w3 ⟨rfl, rfl⟩
    go_wp2
    go_ret
    exact ⟨rfl, hK2⟩

end Go.Proofs.Ytkbbofpjelgiiab
