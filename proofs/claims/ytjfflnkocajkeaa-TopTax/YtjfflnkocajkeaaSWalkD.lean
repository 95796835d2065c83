/-
  What weighted of package split returns: the shares of a whole, rounded down, and one more to each of the first ones in the order of what is left. No condition but those that the theorem names.
-/
import Derived.Test.YtjfflnkocajkeaaSMathB
namespace Go.Proofs.Ytjfflnkocajkeaa
open Go.RowKit

/-- What weighted leaves: a new row. -/
def WeightedPost (w : World) (n u : Nat) (r g : Nat → Int) (e : Ending) (w' : World) : Prop :=
  ∃ (pp : Nat) (d : Nat → Int), w.heap.size ≤ pp ∧ e = .returned (.slice (some ⟨pp, 0, none⟩) n n) ∧ Ordered (keyOf r) n d ∧ Own w' pp (tab n (addU d g u)) ∧ Kept w w'

theorem SlBox.other {w : World} {bx r i : Nat} {v x : Value} (h : SlBox w bx v) (hr : r ≠ bx) : SlBox (w.setCell ⟨r, i, none⟩ x) bx v := by
  have hr' : bx ≠ r := fun e => hr e.symm
  have hc := h.cell
  refine ⟨by simpa using h.lt, ?_⟩
  go_simp

theorem addU_congr (d g h : Nat → Int) (u n : Nat) (e : ∀ q, q < n → g q = h q) (hI : InR n d) (hu : u ≤ n) : ∀ q, q < n → addU d g u q = addU d h u q := by
  induction u with
  | zero => exact e
  | succ u ih =>
    intro q hq
    have i1 := ih (by omega)
    have r := hI u (by omega)
    unfold addU up
    rw [i1 q hq, i1 (d u).toNat (by omega)]
set_option maxRecDepth 100000 in
set_option maxHeartbeats 4000000 in
theorem weighted_any (W : Int) (wp off cap n u : Nat) (wt : Nat → Int) (T : Int) (w : World) (n1 : 1 ≤ n) (hn : n ≤ 40) (W0 : 0 ≤ W) (W1 : W ≤ 1000000000000) (hw : WtOk wt n) (hT : T = sumTo wt n) (h0 : 0 < T) (hu : W - sumTo (bs W wt T) n = u) (hR : Rd w wp off (tab n wt)) :
    Calls Try.prog 78 #[.int .i64 W, .slice (some ⟨wp, off, none⟩) n cap, .int .i64 T] w (WeightedPost w n u (rs W wt T) (bs W wt T)) := by
  have mk := make_ints n (by omega)
  have T1 : T ≤ 40000000 := by
    have := sum_le wt n 1000000 (fun i hi => (hw i hi).2)
    rw [hT]; have : (1000000 : Int) * n ≤ 1000000 * 40 := by omega
    omega
  have HT := Lib.hid hT
  have HU := Lib.hid hu
  have ub := units_bd (W := W) (wt := wt) (n := n) T hT h0
  have un : u ≤ n := by omega
  clear hT hu ub
  have tz : (T == 0) = false := by rw [beq_eq_false_iff_ne]; omega
  go_enter Try.func78, Try.ntmps78
  go_wp2
  clear mk
  have hP := ((Own.made (w := w) (n := n) (t := 3) rfl).later ((Kept.refl _).alloc (.cells (zs n) 3))).later ((Kept.refl _).alloc (.cells #[.slice (some ⟨w.heap.size + 1, 0, none⟩) n n] 47))
  have hS := (Own.made (w := w.alloc (.cells (zs n) 3)) (n := n) (p := w.heap.size + 1) (t := 3) (by simp)).later ((Kept.refl _).alloc (.cells #[.slice (some ⟨w.heap.size + 1, 0, none⟩) n n] 47))
  have hX : SlBox (((w.alloc (.cells (zs n) 3)).alloc (.cells (zs n) 3)).alloc (.cells #[.slice (some ⟨w.heap.size + 1, 0, none⟩) n n] 47)) (w.heap.size + 2) (.slice (some ⟨w.heap.size + 1, 0, none⟩) n n) := SlBox.new (by simp)
  have hK := (((Kept.refl w).alloc (.cells (zs n) 3)).alloc (.cells (zs n) 3)).alloc (.cells #[.slice (some ⟨w.heap.size + 1, 0, none⟩) n n] 47)
  rw [tab_zero] at hP hS
  generalize ((w.alloc (.cells (zs n) 3)).alloc (.cells (zs n) 3)).alloc (.cells #[.slice (some ⟨w.heap.size + 1, 0, none⟩) n n] 47) = w1 at *
  go_loopw [9, 21] (fun s i wr => ∃ j : Nat, j ≤ n ∧ i = .int .i64 j ∧ s = .int .i64 (W - sumTo (bs W wt T) j) ∧ Own wr w.heap.size (tab n (mix (bs W wt T) (fun _ => 0) j)) ∧ Own wr (w.heap.size + 1) (tab n (mix (rs W wt T) (fun _ => 0) j)) ∧ SlBox wr (w.heap.size + 2) (.slice (some ⟨w.heap.size + 1, 0, none⟩) n n) ∧ Kept w wr) (fun _ i _ => (n - intOf i).toNat)
  case atStart => exact ⟨0, by omega, rfl, by simp [sumTo], by rw [mix_zero]; exact hP, by rw [mix_zero]; exact hS, hX, hK⟩
  case round =>
    clear hP hS hX hK
    obtain ⟨j, hj, rfl, rfl, hP, hS, hX, hK⟩ := hrel
    by_cases hlt : j < n
    · have hc := (hR.later hK).cell j (by rw [tab_len]; exact hlt)
      have hp1 := hP.cell j (by rw [tab_len]; exact hlt)
      have hp2 := hP.free j (by rw [tab_len]; exact hlt)
      have hs1 := hS.cell j (by rw [tab_len]; exact hlt)
      have hs2 := hS.free j (by rw [tab_len]; exact hlt)
      have hx1 := hX.cell
      rw [tab_get] at hc
      rw [tab_get, mix_at] at hp1 hs1
      have wb := wt_bd hw W0 W1 j hlt
      have w2 := hw j hlt
      have bb := bs_bd hw W0 T HT.out h0 j hlt
      have rb := rs_bd W wt T h0 j
      have sb := sumTo_bd (bs W wt T) 1000000000000 j (fun i hi => by have := bs_bd hw W0 T HT.out h0 i (by omega); omega)
      have E1 := Lib.hid (show bs W wt T j = W * wt j / T from rfl)
      have E2 := Lib.hid (show rs W wt T j = W * wt j % T from rfl)
      have E3 := Lib.hid (show sumTo (bs W wt T) (j + 1) = sumTo (bs W wt T) j + bs W wt T j from rfl)
      have b0 : 0 ≤ W * wt j / T := by rw [← E1.out]; omega
      have b1 : W * wt j / T ≤ 1000000000000 := by rw [← E1.out]; omega
      have NP : Hid (Own ((wr.setCell ⟨w.heap.size, j, none⟩ (.int .i64 (W * wt j / T))).setCell ⟨w.heap.size + 1, j, none⟩ (.int .i64 (W * wt j % T))) w.heap.size (tab n (mix (bs W wt T) (fun _ => 0) (j + 1)))) := by
        have a := hP.set j (W * wt j / T) (by rw [tab_len]; exact hlt)
        rw [tab_set] at a
        have e := mix_set (bs W wt T) (fun _ => 0) j
        rw [E1.out] at e
        rw [e] at a
        exact a.other (by omega)
      have NS : Hid (Own ((wr.setCell ⟨w.heap.size, j, none⟩ (.int .i64 (W * wt j / T))).setCell ⟨w.heap.size + 1, j, none⟩ (.int .i64 (W * wt j % T))) (w.heap.size + 1) (tab n (mix (rs W wt T) (fun _ => 0) (j + 1)))) := by
        have a := (hS.other (r := w.heap.size) (i := j) (v := .int .i64 (W * wt j / T)) (by omega)).set j (W * wt j % T) (by rw [tab_len]; exact hlt)
        rw [tab_set] at a
        have e := mix_set (rs W wt T) (fun _ => 0) j
        rw [E2.out] at e
        rw [e] at a
        exact a
      have NX : Hid (SlBox ((wr.setCell ⟨w.heap.size, j, none⟩ (.int .i64 (W * wt j / T))).setCell ⟨w.heap.size + 1, j, none⟩ (.int .i64 (W * wt j % T))) (w.heap.size + 2) (.slice (some ⟨w.heap.size + 1, 0, none⟩) n n)) :=
        (hX.other (r := w.heap.size) (i := j) (x := .int .i64 (W * wt j / T)) (by omega)).other (r := w.heap.size + 1) (i := j) (x := .int .i64 (W * wt j % T)) (by omega)
      have NK : Hid (Kept w ((wr.setCell ⟨w.heap.size, j, none⟩ (.int .i64 (W * wt j / T))).setCell ⟨w.heap.size + 1, j, none⟩ (.int .i64 (W * wt j % T)))) := (hK.setAt (Nat.le_refl _) _).setAt (by omega) _
      have pl := hP.lt
      have sl := hS.lt
      have xl := hX.lt
      clear hP hS hX hK
      have j1 : (j : Int) < (n : Int) := by omega
      go_wp2
      go_region
      all_goals go_wp2
      all_goals
        go_roundw
        case rel => exact ⟨j + 1, by omega, by go_num, by rw [E3.out, E1.out]; congr 1; omega, NP.out.drew, NS.out.drew, NX.out.drew, NK.out.drew⟩
        case measure => simp [intOf]; omega
    · obtain rfl : j = n := by omega
      clear hlt
      rw [mix_end] at hP hS
      rw [HU.out]
      have hCO := order_any (w.heap.size + 2) (w.heap.size + 1) j (rs W wt T) wr ⟨hX.lt, hX.cell, hS.rd⟩
      have HG : Hid (∀ q, -1000000000000 ≤ mix (bs W wt T) (fun _ => 0) j q ∧ mix (bs W wt T) (fun _ => 0) j q ≤ 1000000000000) := by
        intro q
        unfold mix
        split
        · have := bs_bd hw W0 T HT.out h0 q (by assumption); omega
        · simp
      have hP' : Own wr w.heap.size (tab j (mix (bs W wt T) (fun _ => 0) j)) := by rw [mix_end]; exact hP
      go_wp2_with fail
      refine (give_any w.heap.size j u (w.heap.size + 2) _ (mix (bs W wt T) (fun _ => 0) j) w _ hn un HG.out hCO hP' (Nat.le_refl _) hK).mono ?_
      rintro e w3 ⟨d, rfl, hR3, hO3, hK3⟩
      have HR3 := Lib.hid hR3
      clear hR3
      go_wp2
      go_ret
      refine ⟨w.heap.size, d, Nat.le_refl _, rfl, HR3.out, ?_, hK3⟩
      rw [tab_congr j (h := addU d (mix (bs W wt T) (fun _ => 0) j) u) (fun q hq => addU_congr d _ _ u j (fun q hq => by simp [mix, hq]) (HR3.out.1.inR (Nat.le_refl _) (fun q hq => by unfold idn; omega)) un q hq)]
      exact hO3

end Go.Proofs.Ytjfflnkocajkeaa
