/-
  The law SplitOrder returns true: who has more weight has no less; k times the weights, the same parts; the negative amount, the same parts mirrored. Condition: the row's length is within its capacity and the memory.
-/
import Derived.Test.YtkbbofpjelgiiabSMathD
import Derived.Test.YtkbbofpjelgiiabSWalkF
import Derived.BigQuiet
namespace Go.Proofs.Ytkbbofpjelgiiab
open Go.RowKit

theorem by_73 (d : Nat → Int) (h : Ordered (keyOf (rs 10 (lit [2, 1]) 3)) 2 d) : tab 2 (fun i => sg (-10) (addU d (bs 10 (lit [2, 1]) 3) 1 i)) = [-7, -3] := by
  rw [addU_eq h (ordered_idn _ 2 (by decide)) (by omega)]
  decide

set_option maxRecDepth 100000 in
set_option maxHeartbeats 4000000 in
/-- No numbers: their sum is 0. -/
theorem sum_none (a : Option Addr) (cap : Nat) (w : World) : Calls Try.prog 17 #[.slice a 0 cap] w fun e w' => e = .returned (.int .i64 0) ∧ w = w' := by
  go_enter Try.func17, Try.ntmps17
  go_wp2
  refine wp_loop_rounds 1 ?_
  rw [rounds_succ]
  go_wp2
  go_ret
  exact ⟨rfl, rfl⟩
theorem sum_arg (g : Nat → Int) (a : Option Addr) (n cap : Nat) (w : World) (hn : n ≤ 40) (hg : ∀ j, j < n → 0 ≤ g j ∧ g j < 1000) (hA : Arg w a n g) :
    Calls Try.prog 17 #[.slice a n cap] w fun e w' => e = .returned (.int .i64 (sumTo g n)) ∧ w = w' := by
  by_cases z : n = 0
  · subst z; exact sum_none a cap w
  · obtain ⟨p, off, rfl, hR⟩ := hA.at (by omega)
    exact sum_any g p off n cap w (by omega) (fun j hj => by have := hg j hj; omega) hR

/-- What the rounds keep. -/
structure Two (w wr : World) (m l : Value) (j : Nat) (k : Int) (g x : Nat → Int) : Prop where
  more : Gr w.heap.size wr m j (fun t => k * g t)
  less : Gr w.heap.size wr l j (fun t => -x t)
  apart : Apart m l
  kept : Kept w wr
theorem Two.start (w : World) (k : Int) (g x : Nat → Int) : Two w w (.slice none 0 0) (.slice none 0 0) 0 k g x :=
  ⟨Gr.nil _ _ _, Gr.nil _ _ _, (fun _ e _ => by cases e), Kept.refl w⟩
/-- The first has grown. -/
structure Half (w wr : World) (m l : Value) (j : Nat) (k : Int) (g x : Nat → Int) : Prop where
  more : Gr w.heap.size wr m (j + 1) (fun t => k * g t)
  less : Gr w.heap.size wr l j (fun t => -x t)
  apart : Apart m l
  kept : Kept w wr
theorem Two.half {w wr w1 : World} {m m' l : Value} {j : Nat} {k : Int} {g x : Nat → Int} {o : Obj} (h : Two w wr m l j k g x) (hG : Gr w.heap.size w1 m' (j + 1) (up (fun t => k * g t) j (k * g j))) (hg : (wr.alloc o).grownBy w1 m.ownBlock) (mv : Moved (wr.alloc o) m m') : Half w w1 m' l j k g x :=
  ⟨hG.congr (fun t _ => by unfold up; split <;> simp_all), (h.less.alloc o).kept hg h.apart, h.apart.moved mv (h.less.alloc o), (h.more.alloc o).below (Nat.le_refl _) (h.kept.alloc o) hg⟩
theorem Half.two {w wr w1 : World} {m l l' : Value} {j : Nat} {k : Int} {g x : Nat → Int} {o : Obj} (h : Half w wr m l j k g x) (hG : Gr w.heap.size w1 l' (j + 1) (up (fun t => -x t) j (-x j))) (hg : (wr.alloc o).grownBy w1 l.ownBlock) (mv : Moved (wr.alloc o) l l') : Two w w1 m l' (j + 1) k g x :=
  ⟨(h.more.alloc o).kept hg h.apart.symm, hG.congr (fun t _ => by unfold up; split <;> simp_all), (h.apart.symm.moved mv (h.more.alloc o)).symm, (h.less.alloc o).below (Nat.le_refl _) (h.kept.alloc o) hg⟩
theorem Two.drew {w wr : World} {m l : Value} {j : Nat} {k : Int} {g x : Nat → Int} (h : Two w wr m l j k g x) (n : Nat) : Two w (wr.drewN n) m l j k g x :=
  ⟨⟨h.more.own⟩, ⟨h.less.own⟩, h.apart, Kept.trans h.kept (Drew.kept (⟨n, rfl⟩ : Drew wr (wr.drewN n)))⟩

set_option maxRecDepth 100000 in
set_option maxHeartbeats 4000000 in
theorem splitOrder_walk (b : Int) (a : Option Addr) (n0 cap : Nat) (wt : Nat → Int) (c : Int) (w : World) (hn : n0 ≤ 4000000000000000000) (hA : Arg w a n0 wt) (hcap : n0 ≤ cap) :
    Calls Try.prog 5 #[.int .i64 b, .slice a n0 cap, .int .i64 c] w fun e w' => e = .returned (.bool true) ∧ Kept w w' := by
  go_enter Try.func5, Try.ntmps5
  go_wp2_with fail
  have h3 := (Own.lit (w := w) (l := [2, 1]) (t := 3) rfl).rd
  rw [← tab_lit [2, 1]] at h3
  refine (by_yes (-10) _ 2 _ 1 (lit [2, 1]) _ (Arg.of h3) (by decide) (by decide)).mono ?_
  rintro e w1 ⟨p1, d1, hp1, rfl, hR1, hO1, hK1⟩
  have E1 := by_73 d1 hR1
  have hKa := ((Kept.refl w).alloc _).trans hK1
  have hO1' : Own w1 p1 [-7, -3] := by rw [← E1]; exact hO1
  rw [← tab_lit [-7, -3]] at hO1'
  have hQ := (Own.lit (w := w1) (l := [-7, -3]) (t := 3) rfl).rd
  rw [← tab_lit [-7, -3]] at hQ
  clear hO1 hR1 E1 h3 hK1
  go_wp2_with fail
  refine (equal_yes (lit [-7, -3]) _ _ _ _ _ _ 2 _ (by omega) (hO1'.rd.later ((Kept.refl w1).alloc _)) hQ).mono ?_
  rintro e w2 ⟨rfl, hd⟩
  have hK2 := (hKa.alloc _).trans hd.kept
  have hA2 := hA.later hK2
  clear hO1' hKa hd hQ hA
  go_wp2_with fail
  refine (weights_any _ _ _ wt _ hn hcap hA2).mono ?_
  rintro e w3 ⟨n, ad, cp, g, n40, rfl, hA3, hg, hK3⟩
  have hKb := hK2.trans hK3
  clear hK2 hK3 hA2
  have HG := Lib.hid hg
  clear hg
  go_wp2_with fail
  refine (within_any _ _ _ (by omega) (by omega)).mono ?_
  rintro e w4 ⟨r, r0, r1, rfl, rfl⟩
  obtain ⟨k, hk⟩ : ∃ k : Int, 1 + r = k := ⟨_, rfl⟩
  obtain rfl : r = k - 1 := by omega
  clear hk
  go_wp2_with fail
  rw [show 1 + (k - 1) = k by omega]
  refine (within_any _ _ _ (by omega) (by omega)).mono ?_
  rintro e w4 ⟨am, am0, am1, rfl, rfl⟩
  have HM := Lib.hid (show amB am = true by rw [am_iff]; omega)
  have hwt : WtOk g n := fun i hi => by have := HG.out i hi; omega
  have ES := Lib.hid (byE_small n40 HM.out hwt)
  by_cases hs : sumTo g n = 0
  · have HE := Lib.hid (show byE am n g = 6 by rw [ES.out, if_pos hs])
    have HS := Lib.hid hs
    clear hs
    go_wp2_with fail
    refine (by_no am _ n _ g _ (by omega) hA3 (by rw [HE.out]; omega)).mono ?_
    rintro e w4 ⟨rfl, rfl⟩
    rw [HE.out]
    go_wp2_with fail
    refine (sum_arg g _ n _ _ n40 HG.out hA3).mono ?_
    rintro e w4 ⟨rfl, rfl⟩
    rw [HS.out]
    go_wp2
    go_ret
    exact ⟨ret_bool (by simp), hKb⟩
  · have he : byE am n g = 0 := by rw [ES.out, if_neg hs]
    obtain ⟨u, hu, hB⟩ := units_ex he
    have HE := Lib.hid he
    have HU := Lib.hid hu
    have HB := Lib.hid hB
    have HS := Lib.hid hs
    clear he hu hB hs
    go_wp2_with fail
    refine (by_yes am _ n _ u g _ hA3 HE.out HU.out).mono ?_
    rintro e w4 ⟨p, d, hp, rfl, hR, hO, hK⟩
    have OK := Lib.hid (HB.out d hR)
    have hK4 := hKb.trans hK
    have hA4 := hA3.later hK
    have n1 := OK.out.n1
    obtain ⟨wp, off, rfl, hWR⟩ := hA4.at n1
    have hO' : Own w4 p (tab n (byV am n u g d)) := hO
    clear hR hO HB hA3 hA4 hK hKb HU HE
    obtain ⟨X, hX⟩ : ∃ X, byV am n u g d = X := ⟨_, rfl⟩
    have HX := Lib.hid hX
    rw [hX] at hO'
    clear hX
    go_wp2_with fail
    go_loopw [11, 12, 63] (fun m l i wr => ∃ j : Nat, j ≤ n ∧ i = .int .i64 j ∧ Two w4 wr m l j k g X) (fun _ _ i _ => (n - intOf i).toNat)
    case atStart => exact ⟨0, by omega, rfl, Two.start _ _ _ _⟩
    case round =>
      obtain ⟨j, hj, rfl, hT⟩ := hrel
      by_cases hlt : j < n
      · have hc := (hWR.later hT.kept).cell j (by rw [tab_len]; exact hlt)
        rw [tab_get] at hc
        have gj := HG.out j hlt
        have kg : 0 ≤ k * g j ∧ k * g j ≤ 1000000 := by
          constructor
          · exact Int.mul_nonneg (by omega) gj.1
          · have : k * g j ≤ 1000 * 1000 := Int.mul_le_mul (by omega) (by omega) gj.1 (by omega)
            omega
        go_wp2_with (at_builtin; refine app_one rfl (.tmp 68) (.tmp 72) rfl (B := w4.heap.size) (z := k * g j) rfl rfl (hT.more.alloc _) (by simp) (by omega) (by have := hT.kept.size; simp; omega) ?_)
        intro m' v1 hG1 hgr1 mv1
        have hH := hT.half hG1 hgr1 mv1
        clear hG1 hgr1 mv1 hT hc
        have hx := (hO'.later hH.kept).cell j (by rw [tab_len]; exact hlt)
        rw [tab_get] at hx
        have bx := OK.out.bd j hlt
        rw [HX.out] at bx
        go_wp2_with (at_builtin; refine app_one rfl (.tmp 74) (.tmp 80) rfl (B := w4.heap.size) (z := -X j) rfl rfl (hH.less.alloc _) (by simp) (by omega) (by have := hH.kept.size; simp; omega) ?_)
        intro l' v2 hG2 hgr2 mv2
        have hT := hH.two hG2 hgr2 mv2
        clear hG2 hgr2 mv2 hH hx kg
        go_wp2_with fail
        go_loopw [84] (fun i wr => ∃ t : Nat, t ≤ n ∧ i = .int .i64 t ∧ Two w4 wr m' l' (j + 1) k g X) (fun i _ => (n - intOf i).toNat)
        case atStart => exact ⟨0, by omega, rfl, hT⟩
        case round =>
          clear hT
          obtain ⟨t, ht, rfl, hT⟩ := hrel
          by_cases hlt2 : t < n
          · have hc := (hWR.later hT.kept).cell t (by rw [tab_len]; exact hlt2)
            have hx := (hO'.later hT.kept).cell j (by rw [tab_len]; exact hlt)
            have hy := (hO'.later hT.kept).cell t (by rw [tab_len]; exact hlt2)
            rw [tab_get] at hc hx hy
            have mo := OK.out.mono am0 j t hlt hlt2
            rw [HX.out] at mo
            have i1 : (j : Int) < (n : Int) := by omega
            have i2 : (t : Int) < (n : Int) := by omega
            by_cases cm : g t < g j
            · have g1 : decide (g t < g j) = true := by simpa using cm
              have mo' := mo cm
              have g2 : decide (X j < X t) = false := by simp; omega
              clear mo
              go_wp2
              go_quiet (fail)
              go_wp2
              go_roundw
              case rel => exact ⟨t + 1, by omega, by go_num, hT.drew _⟩
              case measure => simp [intOf]; omega
            · have g1 : decide (g t < g j) = false := by simpa using cm
              clear mo cm hx hy
              go_wp2
              go_quiet (fail)
              go_wp2
              go_roundw
              case rel => exact ⟨t + 1, by omega, by go_num, hT.drew _⟩
              case measure => simp [intOf]; omega
          · obtain rfl : t = n := by omega
            clear hlt2 ht
            go_wp2
            go_roundw
            case rel => exact ⟨j + 1, by omega, by go_num, hT⟩
            case measure => simp [intOf]; omega
      · obtain rfl : j = n := by omega
        clear hlt hj
        have hK5 := hK4.trans hT.kept
        obtain ⟨ma, mc, rfl, hMA⟩ := hT.more.arg
        obtain ⟨la, lc, rfl, hLA⟩ := hT.less.arg
        have hO5 := hO'.later hT.kept
        have hW5 := hWR.later hT.kept
        have hwk : WtOk (fun t => k * g t) j := fun i hi => by
          have gi := HG.out i hi
          constructor
          · exact Int.mul_nonneg (by omega) gi.1
          · have : k * g i ≤ 1000 * 1000 := Int.mul_le_mul (by omega) (by omega) gi.1 (by omega)
            show k * g i ≤ 1000000
            omega
        have he1 : byE am j (fun t => k * g t) = 0 := by
          rw [byE_small n40 HM.out hwk, sumTo_mul, if_neg]
          intro z
          rcases Int.mul_eq_zero.1 z with z | z
          · omega
          · exact HS.out z
        have he2 : byE (-am) j g = 0 := by
          rw [byE_small n40 (by rw [am_iff]; omega) hwt, if_neg HS.out]
        obtain ⟨u1, hu1, hB1⟩ := units_ex he1
        obtain ⟨u2, hu2, hB2⟩ := units_ex he2
        have HE1 := Lib.hid he1
        have HE2 := Lib.hid he2
        have HU1 := Lib.hid hu1
        have HU2 := Lib.hid hu2
        have HB1 := Lib.hid hB1
        have HB2 := Lib.hid hB2
        clear he1 he2 hu1 hu2 hB1 hB2 hwk hT hO' hWR hwt
        go_wp2_with fail
        refine (by_yes am _ j _ u1 (fun t => k * g t) _ hMA HE1.out HU1.out).mono ?_
        rintro e w6 ⟨p6, d6, hp6, rfl, hR6, hO6, hK6⟩
        have OK1 := HB1.out d6 hR6
        have e1 := OK.out.scale (by omega) OK1
        rw [HX.out] at e1
        have hO6' : Own w6 p6 (tab j X) := by rw [← e1]; exact hO6
        have hLA6 := hLA.later hK6
        have hX6 := hO5.later hK6
        have hW6 := hW5.later hK6
        have hKa := hK5.trans hK6
        clear hO6 hR6 e1 OK1 hLA hO5 hW5 hK5 hK6 hMA HB1 HE1 HU1
        go_wp2_with fail
        refine (by_yes (-am) _ j _ u2 g _ (Arg.of hW6) HE2.out HU2.out).mono ?_
        rintro e w7 ⟨p7, d7, hp7, rfl, hR7, hO7, hK7⟩
        have OK2 := HB2.out d7 hR7
        have e2 : tab j (byV (-am) j u2 g d7) = tab j (fun t => -X t) := tab_congr j (fun i hi => by rw [OK.out.mirror am0 OK2 i hi, HX.out])
        have hO7' : Own w7 p7 (tab j (fun t => -X t)) := by rw [← e2]; exact hO7
        obtain ⟨q, qo, rfl, hL⟩ := (hLA6.later hK7).at n1
        have hX7 := hX6.later hK7
        have hY7 := hO6'.later hK7
        have hKb := hKa.trans hK7
        clear hO7 hR7 e2 OK2 hLA6 hX6 hO6' hW6 hKa hK7 HB2 HE2 HU2
        go_wp2_with fail
        refine (equal_yes X _ _ _ _ _ _ j _ (by omega) hX7.rd hY7.rd).mono ?_
        rintro e w8 ⟨rfl, hd8⟩
        have hZ8 := hO7'.later hd8.kept
        have hL8 := hL.later hd8.kept
        have hKc := hKb.trans hd8.kept
        clear hX7 hY7 hO7' hL hd8 hKb
        go_wp2_with fail
        refine (equal_yes (fun t => -X t) _ _ _ _ _ _ j _ (by omega) hZ8.rd hL8).mono ?_
        rintro e w9 ⟨rfl, hd9⟩
        have hKd := hKc.trans hd9.kept
        clear hZ8 hL8 hKc hd9
        go_wp2
        go_ret
        exact ⟨rfl, hKd⟩

end Go.Proofs.Ytkbbofpjelgiiab
