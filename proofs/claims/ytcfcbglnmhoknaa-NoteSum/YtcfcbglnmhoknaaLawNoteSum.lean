/-
  The law NoteSum returns true: the principal repaid sums to the loan; all payments but the last one are full; the balance decreases. No condition.
-/
import Derived.Test.YtcfcbglnmhoknaaKWalkC
namespace Go.Proofs.Ytcfcbglnmhoknaa
open Go.RowKit

theorem er_100 : erL 100 100000 60 = 0 := erL_of (by decide) (by omega) (by omega) (by decide) (bal_stay (by omega) 2 (by decide) 40 (by omega))
theorem cnt_100 : cnt 100000 60 40 100 = 2 := cnt_first 40 100 (by omega) (by decide) (by decide)
theorem rw_100 : (rwF 100000 60 100).i 0 = 10 ∧ (rwF 100000 60 100).o 0 = 50 ∧ (rwF 100000 60 100).l 0 = 50 ∧ (rwF 100000 60 100).i 1 = 5 ∧ (rwF 100000 60 100).o 1 = 50 ∧ (rwF 100000 60 100).l 1 = 0 := by decide
theorem RArg.lit2 {w : World} {t : TypeId} {R : Rw} (a b c d e f : Int) (h : R.i 0 = a ∧ R.o 0 = b ∧ R.l 0 = c ∧ R.i 1 = d ∧ R.o 1 = e ∧ R.l 1 = f) :
    RArg (w.alloc (.cells #[.int .i64 a, .int .i64 b, .int .i64 c, .int .i64 d, .int .i64 e, .int .i64 f] t)) (some ⟨w.heap.size, 0, none⟩) 2 R := by
  obtain ⟨h0, h1, h2, h3, h4, h5⟩ := h
  refine .inr ⟨_, rfl, by simp, fun j hj => ?_, fun j hj => ?_, fun j hj => ?_⟩
  all_goals
    rcases (show j = 0 ∨ j = 1 by omega) with rfl | rfl
    · simp [h0, h1, h2]
    · simp [h3, h4, h5]
/-- What is so of each row. -/
theorem row_facts {L r p : Int} (h : erL L r p = 0) (k : Nat) (hk : k < cnt r p 40 L) :
    1 ≤ (rwF r p L).o k ∧ (rwF r p L).l k = bal r p L k - (rwF r p L).o k ∧ 0 ≤ (rwF r p L).i k ∧ (rwF r p L).i k + (rwF r p L).o k ≤ p ∧ (k + 1 < cnt r p 40 L → (rwF r p L).i k + (rwF r p L).o k = p) ∧ (rwF r p L).l k = bal r p L (k + 1)
      ∧ 0 ≤ bal r p L k ∧ bal r p L k ≤ 1000000000000 ∧ (rwF r p L).i k ≤ 1000000000000 ∧ (rwF r p L).o k ≤ 1000000000000 := by
  obtain ⟨o, p1, p2, hi, hb⟩ := erL_yes h
  obtain ⟨a0, a1, r0, r1⟩ := (okL_iff L r).1 o
  obtain ⟨f0, f1⟩ := bal_falls a0 r0 hi k
  have n := bal_nonneg r p a0 k
  have i0 := itR_nonneg n r0
  have i1 := itR_le n r1
  have z := (cnt_spec (r := r) (pay := p) 40 L).1
  have z0 := z k hk
  have e : bal r p L (k + 1) = nx r p (bal r p L k) := rfl
  unfold nx at e
  have F : k + 1 < cnt r p 40 L → itR r (bal r p L k) + (bal r p L k - bal r p L (k + 1)) = p := by
    intro q
    have := z (k + 1) q
    omega
  show 1 ≤ bal r p L k - bal r p L (k + 1) ∧ bal r p L (k + 1) = bal r p L k - (bal r p L k - bal r p L (k + 1)) ∧ 0 ≤ itR r (bal r p L k) ∧ itR r (bal r p L k) + (bal r p L k - bal r p L (k + 1)) ≤ p ∧ _ ∧ bal r p L (k + 1) = bal r p L (k + 1) ∧ _ ∧ _ ∧ itR r (bal r p L k) ≤ 1000000000000 ∧ bal r p L k - bal r p L (k + 1) ≤ 1000000000000
  refine ⟨by omega, by omega, i0, by omega, F, rfl, n, by omega, by omega, by omega⟩
set_option maxRecDepth 100000 in
set_option maxHeartbeats 4000000 in
theorem noteSum_walk (L r p : Int) (w : World) :
    Calls Try.prog 4 #[.int .i64 L, .int .i64 r, .int .i64 p] w fun e w' => e = .returned (.bool true) ∧ Kept w w' := by
  have RC := Lib.hid (fun w => rows_yes 100 100000 60 w er_100)
  have RL := Lib.hid (fun w => RArg.lit2 (w := w) (t := 30) 10 50 50 5 50 0 rw_100)
  by_cases h : erL L r p = 0
  · have E := Lib.hid h
    obtain ⟨o, p1, p2, _, hb⟩ := erL_yes h
    have cl := cnt_le r p 40 L
    have FA := Lib.hid (row_facts h)
    have B0 := Lib.hid (show bal r p L 0 = L from rfl)
    have BE := Lib.hid (cnt_end 40 L hb)
    clear h o hb
    go_enter Try.func4, Try.ntmps4
    go_wp2_with fail
    refine (RC.out _).mono ?_
    rintro e w1 ⟨a, c, rfl, hG, hK1⟩
    rw [cnt_100] at hG ⊢
    go_wp2_with fail
    refine (requal_yes (rwF 100000 60 100) _ _ _ _ _ _ (by omega) (hG.arg.later ((Kept.refl _).alloc _)) (RL.out _)).mono ?_
    rintro e w2 ⟨rfl, hd⟩
    have hK := (hK1.alloc _).trans hd.kept
    clear hK1 hd hG
    go_wp2_with fail
    refine (rows_yes _ _ _ _ E.out).mono ?_
    rintro e w3 ⟨a, c, rfl, hG3, hK3⟩
    have hK4 := hK.trans hK3
    have HA := Lib.hid hG3.arg
    clear hK hK3 hG3
    generalize cnt r p 40 L = n at *
    go_wp2_with fail
    go_loopw [11, 43] (fun s i wr => ∃ k : Nat, k ≤ n ∧ i = .int .i64 k ∧ s = .int .i64 (bal r p L k) ∧ Kept w3 wr) (fun _ i _ => (n - intOf i).toNat)
    case atStart => exact ⟨0, by omega, rfl, by rw [B0.out], Kept.refl _⟩
    case round =>
      obtain ⟨k, hk, rfl, rfl, hKr⟩ := hrel
      by_cases hlt : k < n
      · obtain ⟨q, rfl, hq⟩ := HA.out.at (by omega)
        have hq' := hq.later hKr
        have lt := hq'.lt
        have c0 := hq'.c0 k hlt
        have c1 := hq'.c1 k hlt
        have c2 := hq'.c2 k hlt
        obtain ⟨f1, f2, f3, f4, f5, f6, f7, f8, f9, f10⟩ := FA.out k hlt
        have F6 := Lib.hid f6
        clear hq hq' f6
        generalize (rwF r p L).i k = x at *
        generalize (rwF r p L).o k = y at *
        generalize (rwF r p L).l k = z at *
        generalize bal r p L k = v at *
        have d1 : decide (y < 1) = false := by simp; omega
        have d2 : (z != v - y) = false := by simp; omega
        have d3 : decide (x < 0) = false := by simp; omega
        have d4 : decide (p < x + y) = false := by simp; omega
        by_cases last : k + 1 < n
        · have d5 : (x + y != p) = false := by have := f5 last; simp; omega
          have d6 : decide ((k : Int) < (n : Int) - 1) = true := by simp; omega
          clear f5 last
          go_wp2
          go_roundw
          case rel => exact ⟨k + 1, by omega, by go_num, by rw [← F6.out, f2], by first | exact hKr.alloc _ | exact ((hKr.alloc _).setAt hKr.le _)⟩
          case measure => simp [intOf]; omega
        · have d6 : decide ((k : Int) < (n : Int) - 1) = false := by simp; omega
          clear f5 last
          go_wp2
          go_roundw
          case rel => exact ⟨k + 1, by omega, by go_num, by rw [← F6.out, f2], by first | exact hKr.alloc _ | exact ((hKr.alloc _).setAt hKr.le _)⟩
          case measure => simp [intOf]; omega
      · obtain rfl : k = n := by omega
        have Z := BE.out
        rw [Z]
        clear hlt
        go_wp2
        go_ret
        exact ⟨rfl, hK4.trans hKr⟩
  · have nz : (erL L r p != 0) = true := by rw [bne_iff_ne]; exact h
    have RN := Lib.hid (fun w => rows_no L r p w h)
    clear h
    generalize erL L r p = er at *
    go_enter Try.func4, Try.ntmps4
    go_wp2_with fail
    refine (RC.out _).mono ?_
    rintro e w1 ⟨a, c, rfl, hG, hK1⟩
    rw [cnt_100] at hG ⊢
    go_wp2_with fail
    refine (requal_yes (rwF 100000 60 100) _ _ _ _ _ _ (by omega) (hG.arg.later ((Kept.refl _).alloc _)) (RL.out _)).mono ?_
    rintro e w2 ⟨rfl, hd⟩
    have hK := (hK1.alloc _).trans hd.kept
    clear hK1 hd hG
    go_wp2_with fail
    refine (RN.out _).mono ?_
    rintro e w3 ⟨rfl, hK3⟩
    go_wp2
    go_ret
    exact ⟨rfl, hK.trans hK3⟩

end Go.Proofs.Ytcfcbglnmhoknaa
