/-
  What giveUnits and weighted of package split do. No condition but those that each theorem names.
-/
import Derived.Test.YtjfflnkocajkeaaTWalkF
namespace Go.Proofs.Ytjfflnkocajkeaa
open Go.RowKit

set_option maxHeartbeats 400000 in
theorem compare_any (x y : Int) (w : World) :
    Calls Try.prog 126 #[.int .i64 x, .int .i64 y] w fun e w' => e = .returned (.int .i64 (cmpV x y)) ∧ w = w' := by
  have E := Lib.hid (show cmpV x y = if x < y then -1 else if y < x then 1 else 0 from rfl)
  generalize cmpV x y = V at *
  rcases (show x < y ∨ x = y ∨ y < x by omega) with h | h | h
  · have F := Lib.hid (show V = -1 by rw [E.out, if_pos h])
    go_enter Try.func126, Try.ntmps126
    go_wp2
    go_ret
    exact ⟨ret_int F.out.symm, rfl⟩
  · subst h
    have F := Lib.hid (show V = 0 by rw [E.out, if_neg (by omega), if_neg (by omega)])
    go_enter Try.func126, Try.ntmps126
    go_wp2
    go_ret
    exact ⟨ret_int F.out.symm, rfl⟩
  · have F := Lib.hid (show V = 1 by rw [E.out, if_neg (by omega), if_pos h])
    go_enter Try.func126, Try.ntmps126
    go_wp2
    go_ret
    exact ⟨ret_int F.out.symm, rfl⟩

/-- The key of a place: what is left there. -/
def keyOf (r : Nat → Int) : Int → Int := fun z => r z.toNat
/-- The box of the rests, as the closure has captured it. -/
structure RestBox (w : World) (bx rp n : Nat) (r : Nat → Int) : Prop where
  lt : bx < w.heap.size
  cell : w.cell? ⟨bx, 0, none⟩ = some (.slice (some ⟨rp, 0, none⟩) n n)
  row : Rd w rp 0 (tab n r)
theorem RestBox.later {w w' : World} {bx rp n : Nat} {r : Nat → Int} (h : RestBox w bx rp n r) (k : Kept w w') : RestBox w' bx rp n r :=
  ⟨Nat.lt_of_lt_of_le h.lt k.le, (k.rd.1 _ _ h.lt).trans h.cell, h.row.later k⟩
set_option maxHeartbeats 1000000 in
theorem order_any (bx rp n : Nat) (r : Nat → Int) (B : World) (hB : RestBox B bx rp n r) : CmpOk B n bx (keyOf r) := by
  intro x y W x0 x1 y0 y1 hK
  obtain ⟨i, rfl⟩ := Int.eq_ofNat_of_zero_le x0
  obtain ⟨j, rfl⟩ := Int.eq_ofNat_of_zero_le y0
  have hW := hB.later hK
  have hc := hW.cell
  have hi := hW.row.cell i (by rw [tab_len]; omega)
  have hj := hW.row.cell j (by rw [tab_len]; omega)
  rw [tab_get, Nat.zero_add] at hi hj
  unfold keyOf
  rw [Int.toNat_natCast, Int.toNat_natCast]
  have i1 : (i : Int) < (n : Int) := by omega
  have j1 : (j : Int) < (n : Int) := by omega
  clear hW hB hK x0 x1 y0 y1
  go_enter Try.func125, Try.ntmps125
  go_wp2
  go_quiet (first | (go_at_call 126; exact quiet_same (compare_any _ _ _)))
  go_wp2
  go_ret
  exact ⟨rfl, _, rfl⟩

/-- One more to each of the first ones in an order. -/
def addU (d : Nat → Int) (g : Nat → Int) : Nat → (Nat → Int)
  | 0 => g
  | u + 1 => up (addU d g u) (d u).toNat (addU d g u (d u).toNat + 1)
/-- What giveUnits leaves. -/
def GivePost (B : World) (pp n u : Nat) (k : Int → Int) (g : Nat → Int) (e : Ending) (w' : World) : Prop :=
  ∃ d, e = .returned (.tuple #[]) ∧ Ordered k n d ∧ Own w' pp (tab n (addU d g u)) ∧ Kept B w'
theorem addU_bd (d g : Nat → Int) (u : Nat) (M : Int) (h : ∀ q, -M ≤ g q ∧ g q ≤ M) : ∀ q, -M ≤ addU d g u q ∧ addU d g u q ≤ M + u := by
  induction u with
  | zero => intro q; have := h q; simp only [addU]; omega
  | succ u ih =>
    intro q
    have a := ih q
    have b := ih (d u).toNat
    unfold addU up
    split <;> omega

set_option maxRecDepth 100000 in
set_option maxHeartbeats 4000000 in
theorem give_any (pp n u bx : Nat) (k : Int → Int) (g : Nat → Int) (B w : World) (hn : n ≤ 40) (hu : u ≤ n) (hg : ∀ q, -1000000000000 ≤ g q ∧ g q ≤ 1000000000000) (hC : CmpOk w n bx k) (hO : Own w pp (tab n g)) (hp : B.heap.size ≤ pp) (hK : Kept B w) :
    Calls Try.prog 124 #[.slice (some ⟨pp, 0, none⟩) n n, .int .i64 (u : Int), ordF bx] w (GivePost B pp n u k g) := by
  have mk := make_ints n (by omega)
  have HG := Lib.hid hg
  clear hg
  go_enter Try.func124, Try.ntmps124
  go_wp2
  have hQ := Own.made (w := w) (n := n) (t := 3) rfl
  have hKw := (Kept.refl w).alloc (.cells (zs n) 3)
  rw [tab_zero] at hQ
  have hql : w.heap.size ≤ w.heap.size := Nat.le_refl _
  generalize hq : w.heap.size = q at hQ hql ⊢
  have hqw : w.heap.size ≤ q := by omega
  have hne : pp < q := by have := hO.lt; omega
  generalize w.alloc (.cells (zs n) 3) = w1 at *
  clear mk hq hql
  go_loopw [15] (fun i wr => ∃ j : Nat, j ≤ n ∧ i = .int .i64 j ∧ Own wr q (tab n (mix idn (fun _ => 0) j)) ∧ Kept w wr) (fun i _ => (n - intOf i).toNat)
  case atStart => exact ⟨0, by omega, rfl, by rw [mix_zero]; exact hQ, hKw⟩
  case round =>
    obtain ⟨j, hj, rfl, hOr, hKr⟩ := hrel
    by_cases hlt : j < n
    · have hc := hOr.cell j (by rw [tab_len]; exact hlt)
      have hf := hOr.free j (by rw [tab_len]; exact hlt)
      rw [tab_get] at hc
      go_wp2
      go_roundw
      case rel =>
        refine ⟨j + 1, by omega, by go_num, ?_, hKr.setAt hqw _⟩
        have := hOr.set j (idn j) (by rw [tab_len]; exact hlt)
        rw [tab_set, mix_set idn _ j] at this
        exact this
      case measure => simp [intOf]; omega
    · obtain rfl : j = n := by omega
      clear hlt
      rw [mix_end] at hOr
      go_wp2_with fail
      refine (sortStable_any q j bx k w _ hn hC hOr hqw hKr).mono ?_
      rintro e w2 ⟨d, rfl, hO2, hK2, hR⟩
      have HR := Lib.hid hR
      have hI := hR.1.inR (Nat.le_refl _) (fun q hq => by unfold idn; omega)
      have hPP := hO.later hK2
      have hKB := hK.trans hK2
      clear hR hOr hKr hQ hKw
      go_wp2
      go_loopw [30] (fun i wr => ∃ t : Nat, t ≤ u ∧ i = .int .i64 t ∧ Own wr pp (tab j (addU d g t)) ∧ Own wr q (tab j d) ∧ Kept B wr) (fun i _ => (u - intOf i).toNat)
      case atStart => exact ⟨0, by omega, rfl, hPP, hO2, hKB⟩
      case round =>
        clear hO2 hPP hKB
        obtain ⟨t, ht, rfl, hO3, hO4, hK3⟩ := hrel
        by_cases htu : t < u
        · have rt := hI t (by omega)
          obtain ⟨v, hv⟩ := Int.eq_ofNat_of_zero_le rt.1
          have hv1 : v < j := by omega
          have hc := hO4.cell t (by rw [tab_len]; omega)
          rw [tab_get, hv] at hc
          have hd := hO3.cell v (by rw [tab_len]; omega)
          have hf := hO3.free v (by rw [tab_len]; omega)
          rw [tab_get] at hd
          have ab := addU_bd d g t 1000000000000 HG.out v
          have HS := Lib.hid (hO3.set v (addU d g t v + 1) (by rw [tab_len]; exact hv1))
          have AD := Lib.hid (show up (addU d g t) v (addU d g t v + 1) = addU d g (t + 1) by
            show _ = up (addU d g t) (d t).toNat (addU d g t (d t).toNat + 1)
            rw [hv, Int.toNat_natCast])
          have HO4 := Lib.hid (fun x => hO4.other (r := pp) (i := v) (v := x) (by omega))
          generalize addU d g t v = z at *
          have HV := Lib.hid hv
          clear hv rt hO4 hO3
          have v1 : (v : Int) < (j : Int) := by omega
          have t1 : (t : Int) < (u : Int) := by omega
          go_wp2
          go_roundw
          case rel =>
            refine ⟨t + 1, by omega, by go_num, ?_, HO4.out _, hK3.setAt hp _⟩
            have := HS.out
            rw [tab_set, AD.out] at this
            exact this
          case measure => simp [intOf]; omega
        · obtain rfl : t = u := by omega
          clear htu
          go_wp2
          go_end0
          exact ⟨d, rfl, HR.out, hO3, hK3⟩

end Go.Proofs.Ytjfflnkocajkeaa
