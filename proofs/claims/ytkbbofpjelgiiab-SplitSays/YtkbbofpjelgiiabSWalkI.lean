/-
  The reference's By for any amount, and Parted with the closure that the law hands it. No condition but those that each theorem names.
-/
import Derived.Test.YtkbbofpjelgiiabSWalkH
import Derived.Test.YtkbbofpjelgiiabSGrow
import Derived.Test.YtkbbofpjelgiiabLawSplitSum
namespace Go.Proofs.Ytkbbofpjelgiiab
open Go.RowKit

set_option maxRecDepth 100000 in
set_option maxHeartbeats 4000000 in
theorem rby_any (amount : Int) (wp off n cap u : Nat) (wt d : Nat → Int) (w : World) (h : ByOk amount n u wt d) (hR : Rd w wp off (tab n wt)) :
    Calls Try.prog 14 #[.int .i64 amount, .slice (some ⟨wp, off, none⟩) n cap] w fun e w' => ∃ po, w.heap.size ≤ po ∧ e = .returned (.slice (some ⟨po, 0, none⟩) n n) ∧ Own w' po (tab n (byV amount n u wt d)) ∧ Kept w w' := by
  have am := h.am
  by_cases a0 : amount < 0
  · have E := Lib.hid (show ((amount.natAbs : Nat) : Int) = -amount by omega)
    have H := Lib.hid h
    have n40 := h.n40
    have hg : ∀ i, i < n → 0 ≤ addU d (bs (-amount) wt (sumTo wt n)) u i ∧ addU d (bs (-amount) wt (sumTo wt n)) u i ≤ 2000000000000 := by
      intro i hi
      have b := bs_bd h.wts (show (0 : Int) ≤ -amount by omega) (sumTo wt n) rfl h.T0 i hi
      have p := h.part i hi
      rw [E.out] at p
      rcases p with ⟨_, p⟩ | ⟨_, p, _⟩ <;> omega
    have HG := Lib.hid hg
    have EV := Lib.hid (show tab n (byV amount n u wt d) = tab n (fun i => -(addU d (bs (-amount) wt (sumTo wt n)) u i)) from tab_congr n (fun i _ => by
      unfold byV sg; rw [if_pos a0, E.out]))
    clear h hg
    go_enter Try.func14, Try.ntmps14
    go_wp2_with fail
    refine (rby_pos (-amount) wp off n cap u wt d (sumTo wt n) w H.out.n1 n40 (by omega) (by omega) H.out.wts rfl H.out.T0 (by have := H.out.hu; rw [E.out] at this; exact this) H.out.un (by have := H.out.od; rw [E.out] at this; exact this) hR).mono ?_
    rintro e w1 ⟨p, hp, rfl, hO, hK⟩
    generalize addU d (bs (-amount) wt (sumTo wt n)) u = g at *
    go_wp2_with fail
    go_loopw [25] (fun i wr => ∃ k : Nat, k ≤ n ∧ i = .int .i64 k ∧ Own wr p (tab n (mix (fun i => -(g i)) g k)) ∧ Kept w wr) (fun i _ => (n - intOf i).toNat)
    case atStart => exact ⟨0, by omega, rfl, by rw [mix_zero]; exact hO, hK⟩
    case round =>
      obtain ⟨k, hk, rfl, hOr, hKr⟩ := hrel
      by_cases hlt : k < n
      · have hc := hOr.cell k (by rw [tab_len]; exact hlt)
        have hf := hOr.free k (by rw [tab_len]; exact hlt)
        rw [tab_get, mix_at] at hc
        have gb := HG.out k hlt
        go_wp2
        go_roundw
        case rel =>
          refine ⟨k + 1, by omega, by go_num, ?_, hKr.setAt hp _⟩
          have := hOr.set k (-(g k)) (by rw [tab_len]; exact hlt)
          rw [tab_set, mix_set (fun i => -(g i)) g k] at this
          exact this
        case measure => simp [intOf]; omega
      · obtain rfl : k = n := by omega
        clear hlt
        rw [mix_end] at hOr
        go_wp2
        go_ret
        exact ⟨p, hp, rfl, by rw [EV.out]; exact hOr, hKr⟩
  · have E := Lib.hid (show ((amount.natAbs : Nat) : Int) = amount by omega)
    refine (rby_pos amount wp off n cap u wt d (sumTo wt n) w h.n1 h.n40 (by omega) (by omega) h.wts rfl h.T0 (by have := h.hu; rw [E.out] at this; exact this) h.un (by have := h.od; rw [E.out] at this; exact this) hR).mono ?_
    rintro e w1 ⟨p, hp, rfl, hO, hK⟩
    refine ⟨p, hp, rfl, ?_, hK⟩
    rw [tab_congr n (h := addU d (bs amount wt (sumTo wt n)) u) (fun i _ => by unfold byV sg; rw [if_neg a0, E.out])]
    exact hO

/-- The three boxes that the closure has captured. -/
structure Boxes (w : World) (ps pa pn : Nat) (sign am : Int) (n : Nat) : Prop where
  s : SlBox w ps (.int .i64 sign)
  a : SlBox w pa (.int .i64 am)
  n : SlBox w pn (.int .i64 n)
theorem SlBox.later {w w' : World} {p : Nat} {v : Value} (h : SlBox w p v) (k : Kept w w') : SlBox w' p v := ⟨Nat.lt_of_lt_of_le h.lt k.le, (k.rd.1 _ _ h.lt).trans h.cell⟩
theorem Boxes.later {w w' : World} {ps pa pn n : Nat} {sign am : Int} (h : Boxes w ps pa pn sign am n) (k : Kept w w') : Boxes w' ps pa pn sign am n := ⟨h.s.later k, h.a.later k, h.n.later k⟩

set_option maxRecDepth 100000 in
set_option maxHeartbeats 1000000 in
theorem clo_any (ps pa pn n k : Nat) (sign am : Int) (w : World) (n1 : 1 ≤ n) (n40 : n ≤ 40) (kn : k ≤ n) (a0 : 0 ≤ am) (a1 : am ≤ 1000000000000) (hs : sign = 1 ∨ sign = -1) (hB : Boxes w ps pa pn sign am n) :
    Calls Try.prog 16 #[.int .i64 (k : Int), .pointer (some ⟨ps, 0, none⟩), .pointer (some ⟨pa, 0, none⟩), .pointer (some ⟨pn, 0, none⟩)] w fun e w' => e = .returned (.int .i64 (sign * evC am n k)) ∧ Drew w w' := by
  have b := evC_bd am n k a0 n1 kn
  have E := Lib.hid (show am * (k : Int) / (n : Int) = evC am n k from rfl)
  have c1 := hB.s.cell
  have c2 := hB.a.cell
  have c3 := hB.n.cell
  have m0 : 0 ≤ am * (k : Int) := Int.mul_nonneg a0 (by omega)
  have m1 : am * (k : Int) ≤ 1000000000000 * 40 := Int.mul_le_mul a1 (by omega) (by omega) (by omega)
  have nz : ((n : Int) == 0) = false := by rw [beq_eq_false_iff_ne]; omega
  have b' : 0 ≤ am * (k : Int) / (n : Int) ∧ am * (k : Int) / (n : Int) ≤ 1000000000000 := by rw [E.out]; omega
  have s1 : -1000000000000 ≤ sign * (am * (k : Int) / (n : Int)) ∧ sign * (am * (k : Int) / (n : Int)) ≤ 1000000000000 := by
    rcases hs with rfl | rfl <;> omega
  clear b hB
  go_enter Try.func16, Try.ntmps16
  go_wp2
  go_quiet (fail)
  go_wp2
  go_ret
  exact ⟨by rw [E.out]; rfl, _, rfl⟩

theorem Gr.ofDrew {B n : Nat} {w w' : World} {v : Value} {g : Nat → Int} (a : Gr B w v n g) (h : Drew w w') : Gr B w' v n g := by
  obtain ⟨m, rfl⟩ := h
  exact ⟨a.own⟩
def PartedPost (w : World) (n : Nat) (g : Nat → Int) (e : Ending) (w' : World) : Prop :=
  ∃ (ad : Option Addr) (cap : Nat), e = .returned (.slice ad n cap) ∧ Arg w' ad n g ∧ Kept w w'
set_option maxRecDepth 100000 in
set_option maxHeartbeats 4000000 in
theorem parted_any (ps pa pn n : Nat) (sign am : Int) (w : World) (n1 : 1 ≤ n) (n40 : n ≤ 40) (a0 : 0 ≤ am) (a1 : am ≤ 1000000000000) (hs : sign = 1 ∨ sign = -1) (hB : Boxes w ps pa pn sign am n) :
    Calls Try.prog 15 #[.int .i64 (n : Int), .func (.func 16) #[] #[.pointer (some ⟨ps, 0, none⟩), .pointer (some ⟨pa, 0, none⟩), .pointer (some ⟨pn, 0, none⟩)]] w (PartedPost w n (fun i => sign * evP am n i)) := by
  have C := Lib.hid (fun (k : Nat) (w1 : World) (kn : k ≤ n) (hK : Kept w w1) => clo_any ps pa pn n k sign am w1 n1 n40 kn a0 a1 hs (hB.later hK))
  have BD := Lib.hid (fun (k : Nat) (kn : k ≤ n) => show -1000000000000 ≤ sign * evC am n k ∧ sign * evC am n k ≤ 1000000000000 by
    have := evC_bd am n k a0 n1 kn
    rcases hs with rfl | rfl <;> omega)
  have Z := Lib.hid (show sign * evC am n 0 = 0 by rw [evC_zero]; simp)
  have EP := Lib.hid (fun (k : Nat) => show sign * evC am n (k + 1) - sign * evC am n k = sign * evP am n k by unfold evP; rw [Int.mul_sub])
  clear hB hs
  go_enter Try.func15, Try.ntmps15
  go_wp2_with fail
  refine (C.out 0 _ (by omega) (Kept.refl w)).mono ?_
  rintro e w1 ⟨rfl, hd⟩
  have hK1 := hd.kept
  clear hd
  go_wp2_with fail
  go_loopw [5, 6, 7] (fun v x i wr => ∃ j : Nat, j ≤ n ∧ i = .int .i64 ((j : Int) + 1) ∧ x = .int .i64 (sign * evC am n j) ∧ Gr w.heap.size wr v j (fun i => sign * evP am n i) ∧ Kept w wr) (fun _ _ i _ => (n + 1 - intOf i).toNat)
  case atStart => exact ⟨0, by omega, rfl, rfl, Gr.nil _ _ _, hK1⟩
  case round =>
    clear hK1
    obtain ⟨j, hj, rfl, rfl, hG, hK⟩ := hrel
    by_cases hlt : j < n
    · have b1 := BD.out j hj
      have b2 := BD.out (j + 1) hlt
      go_wp2_with fail
      refine (C.out (j + 1) _ hlt hK).mono ?_
      rintro e w2 ⟨rfl, hd⟩
      have hK2 := hK.trans hd.kept
      have hG2 := hG.ofDrew hd
      clear hK hG hd
      go_wp2_with (at_builtin; refine app_one rfl (.tmp 15) (.tmp 21) rfl (B := w.heap.size) (z := sign * evC am n (j + 1) - sign * evC am n j) rfl rfl (hG2.alloc _) (by simp) (by omega) (by have := hK2.size; simp; omega) ?_)
      intro v' w3 hG' hgrow _
      have hK3 := (hG2.alloc _).below (Nat.le_refl _) (hK2.alloc _) hgrow
      have hG3 := hG'.congr (h := fun i => sign * evP am n i) (fun t _ => by
        unfold up
        by_cases e : t = j
        · rw [if_pos e, e]; exact EP.out j
        · rw [if_neg e])
      clear hG' hgrow hG2 hK2
      go_wp2_with fail
      refine (C.out (j + 1) _ hlt hK3).mono ?_
      rintro e w4 ⟨rfl, hd⟩
      have hK4 := hK3.trans hd.kept
      have hG4 := hG3.ofDrew hd
      clear hK3 hG3 hd
      go_wp2
      go_roundw
      case rel => exact ⟨j + 1, by omega, by go_num, rfl, hG4, hK4⟩
      case measure => simp [intOf]; omega
    · obtain rfl : j = n := by omega
      obtain ⟨ad, cp, rfl, hAr⟩ := hG.arg
      clear hlt hj
      go_wp2
      go_ret
      exact ⟨ad, cp, rfl, hAr, hK⟩

end Go.Proofs.Ytkbbofpjelgiiab
