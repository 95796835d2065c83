/-
  What the library's symMergeCmpFunc does where one of the two parts is a single number. No condition but those that each theorem names.
-/
import Derived.Test.YtdgiljndoeldcaaGTieB
import Derived.Test.YtdgiljndoeldcaaTMathC
namespace Go.Proofs.Ytdgiljndoeldcaa
open Go.RowKit

/-- What symMerge asks of the row. -/
structure MergePre (B w : World) (p N bx a m b : Nat) (k : Int → Int) (d : Nat → Int) : Prop where
  hN : N ≤ 1000
  h1 : a < m
  h2 : m < b
  h3 : b ≤ N
  hI : InR N d
  hs : Sorted k d a m
  ht : Sorted k d m b
  hc : Cross k d a m b
  hC : CmpOk B N bx k
  hO : Own w p (tab N d)
  hp : B.heap.size ≤ p
  hK : Kept B w

/-- The middle of two places. -/
theorem mid_nat (i j : Nat) : ∃ h : Nat, ((i : Int) + (j : Int)) / 2 = (h : Int) ∧ h = (i + j) / 2 := ⟨(i + j) / 2, by omega, rfl⟩

set_option maxRecDepth 100000 in
set_option maxHeartbeats 4000000 in
theorem merge_left (p N bx a b : Nat) (k : Int → Int) (d : Nat → Int) (B w : World) (hM : MergePre B w p N bx a (a + 1) b k d) :
    Calls Try.prog 102 #[.slice (some ⟨p, 0, none⟩) N N, .int .i64 (a : Int), .int .i64 ((a : Int) + 1), .int .i64 (b : Int), ordF bx] w (SortedPost B p N k d a b) := by
  obtain ⟨hN, h1, h2, h3, hI, hs, ht, hc, hC, hO, hp, hK⟩ := hM
  have m1 : ((a : Int) + 1 - (a : Int) == 1) = true := by rw [beq_iff_eq]; omega
  have ra := hI a (by omega)
  go_enter Try.func102, Try.ntmps102
  go_wp2
  go_loopw [10, 11] (fun s t wr => ∃ i j : Nat, a + 1 ≤ i ∧ i ≤ j ∧ j ≤ b ∧ s = .int .i64 i ∧ t = .int .i64 j ∧ (i = a + 1 ∨ k (d a) < k (d (i - 1))) ∧ (j = b ∨ k (d j) ≤ k (d a)) ∧ Own wr p (tab N d) ∧ Kept B wr) (fun s t _ => (intOf t - intOf s).toNat)
  case atStart => exact ⟨a + 1, b, by omega, by omega, by omega, by go_num, rfl, .inl rfl, .inl rfl, hO, hK⟩
  case round =>
    obtain ⟨i, j, i0, ij, jb, rfl, rfl, hl, hr, hOr, hKr⟩ := hrel
    have HL := Lib.hid hl
    have HR := Lib.hid hr
    clear hl hr
    by_cases hlt : i < j
    · obtain ⟨h, hh, he⟩ := mid_nat i j
      have HH := Lib.hid hh
      have x1 : i ≤ h := by omega
      have x2 : h < j := by omega
      clear hh he
      have rh := hI h (by omega)
      have hc1 := hOr.cell h (by rw [tab_len]; omega)
      have hc2 := hOr.cell a (by rw [tab_len]; omega)
      rw [tab_get] at hc1 hc2
      have CV := Lib.hid (cmpV_neg (k (d a)) (k (d h)))
      have CO := Lib.hid (fun (m : Nat) => hC (d h) (d a) _ rh.1 rh.2 ra.1 ra.2 (hKr.drewN m))
      have e1 : (h : Int) < (N : Int) := by omega
      have e2 : (a : Int) < (N : Int) := by omega
      go_wp2_with fail
      rw [HH.out]
      go_quiet (first | (go_at_call 76; exact quiet_drew (CO.out _)))
      by_cases hk : k (d a) < k (d h)
      · have cb : decide (cmpV (k (d a)) (k (d h)) < 0) = true := by rw [decide_eq_true_iff, CV.out]; exact hk
        have HK := Lib.hid hk
        rw [cb]
        clear cb hk
        go_wp2
        go_roundw
        case rel => exact ⟨h + 1, j, by omega, by omega, by omega, by go_num, rfl, .inr HK.out, HR.out, hOr.drewN _, hKr.drewN _⟩
        case measure => simp [intOf]; omega
      · have cb : decide (cmpV (k (d a)) (k (d h)) < 0) = false := by rw [decide_eq_false_iff_not, CV.out]; exact hk
        have HK := Lib.hid (Int.not_lt.1 hk)
        rw [cb]
        clear cb hk
        go_wp2
        go_roundw
        case rel => exact ⟨i, h, by omega, by omega, by omega, rfl, rfl, HL.out, .inr HK.out, hOr.drewN _, hKr.drewN _⟩
        case measure => simp [intOf]; omega
    · obtain rfl : i = j := by omega
      have SL := Lib.hid (sorted_left (k := k) (d := d) i0 jb ht hc HL.out (HR.out.imp id Int.not_lt.2))
      clear hlt HL HR
      go_wp2
      go_loopw [13] (fun s wr => ∃ q : Nat, a ≤ q ∧ q ≤ i - 1 ∧ s = .int .i64 q ∧ Own wr p (tab N (shl d a q)) ∧ Kept B wr) (fun s _ => (i - intOf s).toNat)
      case atStart => exact ⟨a, by omega, by omega, rfl, by rw [shl_start]; exact hOr, hKr⟩
      case round =>
        clear hOr hKr
        obtain ⟨q, q0, q1, rfl, hO2, hK2⟩ := hrel
        by_cases hq : q < i - 1
        · have hOs := fun (m : Nat) => (hO2.drewN m).swap (i := q) (j := q + 1) (by omega) (by omega)
          rw [shl_step d a q q0] at hOs
          have hc1 := hO2.cell q (by rw [tab_len]; omega)
          have hc2 := hO2.cell (q + 1) (by rw [tab_len]; omega)
          have hf := hO2.free q (by rw [tab_len]; omega)
          have hg := hO2.free (q + 1) (by rw [tab_len]; omega)
          rw [tab_get] at hc1 hc2
          generalize hx : shl d a q q = x at *
          generalize hy : shl d a q (q + 1) = y at *
          have HO := Lib.hid hOs
          clear hOs hO2 hx hy
          have e1 : (q : Int) < (i : Int) - 1 := by omega
          have e2 : (q : Int) + 1 < (N : Int) := by omega
          have e3 : (q : Int) < (N : Int) := by omega
          have e4 : ((q : Int) + 1).toNat = q + 1 := by omega
          have e5 : (1 : Int) ≤ (i : Int) := by omega
          have ne : q ≠ q + 1 := by omega
          go_wp2
          go_region
          all_goals go_wp2
          all_goals
            go_roundw
            case rel => exact ⟨q + 1, by omega, by omega, by go_num, HO.out 1, (((hK2.drewN 1).setAt hp _).setAt hp _)⟩
            case measure => simp [intOf]; omega
        · obtain rfl : q = i - 1 := by omega
          rw [shl_end d a i i0] at hO2
          have e1 : decide (((i - 1 : Nat) : Int) < (i : Int) - 1) = false := by simp; omega
          have e2 : ((i - 1 : Nat) : Int) = (i : Int) - 1 := by omega
          have e5 : (1 : Int) ≤ (i : Int) := by omega
          go_wp2
          go_end0
          exact ⟨_, rfl, hO2, hK2, SegPerm.rot d a (a + 1) i (Nat.le_refl _) (by omega) i0 jb, SL.out⟩

end Go.Proofs.Ytdgiljndoeldcaa
