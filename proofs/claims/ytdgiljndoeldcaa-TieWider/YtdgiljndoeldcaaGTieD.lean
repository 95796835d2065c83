/-
  What the library's symMergeCmpFunc does where the right one of the two parts is a single number. No condition but those that the theorem names.
-/
import Derived.Test.YtdgiljndoeldcaaGTieC
namespace Go.Proofs.Ytdgiljndoeldcaa
open Go.RowKit

set_option maxRecDepth 100000 in
set_option maxHeartbeats 4000000 in
theorem merge_right (p N bx a m : Nat) (k : Int → Int) (d : Nat → Int) (B w : World) (hne : a + 1 < m) (hM : MergePre B w p N bx a m (m + 1) k d) :
    Calls Try.prog 102 #[.slice (some ⟨p, 0, none⟩) N N, .int .i64 (a : Int), .int .i64 (m : Int), .int .i64 ((m : Int) + 1), ordF bx] w (SortedPost B p N k d a (m + 1)) := by
  obtain ⟨hN, h1, h2, h3, hI, hs, ht, hc, hC, hO, hp, hK⟩ := hM
  have m0 : ((m : Int) - (a : Int) == 1) = false := by rw [beq_eq_false_iff_ne]; omega
  have m1 : ((m : Int) + 1 - (m : Int) == 1) = true := by rw [beq_iff_eq]; omega
  have rm := hI m (by omega)
  go_enter Try.func102, Try.ntmps102
  go_wp2
  go_loopw [14, 15] (fun s t wr => ∃ i j : Nat, a ≤ i ∧ i ≤ j ∧ j ≤ m ∧ s = .int .i64 i ∧ t = .int .i64 j ∧ (i = a ∨ k (d m) ≤ k (d (i - 1))) ∧ (j = m ∨ k (d j) < k (d m)) ∧ Own wr p (tab N d) ∧ Kept B wr) (fun s t _ => (intOf t - intOf s).toNat)
  case atStart => exact ⟨a, m, by omega, by omega, by omega, rfl, rfl, .inl rfl, .inl rfl, hO, hK⟩
  case round =>
    obtain ⟨i, j, i0, ij, jb, rfl, rfl, hl, hr, hOr, hKr⟩ := hrel
    have HL := Lib.hid hl
    have HR := Lib.hid hr
    clear hl hr
    by_cases hlt : i < j
    · obtain ⟨h, hh, he⟩ := mid_nat i j
      have HH := Lib.hid hh
      have x1 : i ≤ h := by omega
      have x2 : h < j := by omega
      clear hh he
      have rh := hI h (by omega)
      have hc1 := hOr.cell h (by rw [tab_len]; omega)
      have hc2 := hOr.cell m (by rw [tab_len]; omega)
      rw [tab_get] at hc1 hc2
      have CV := Lib.hid (cmpV_neg (k (d h)) (k (d m)))
      have CO := Lib.hid (fun (q : Nat) => hC (d m) (d h) _ rm.1 rm.2 rh.1 rh.2 (hKr.drewN q))
      have e1 : (h : Int) < (N : Int) := by omega
      have e2 : (m : Int) < (N : Int) := by omega
      go_wp2_with fail
      rw [HH.out]
      go_quiet (first | (go_at_call 76; exact quiet_drew (CO.out _)))
      by_cases hk : k (d h) < k (d m)
      · have cb : decide (cmpV (k (d h)) (k (d m)) < 0) = true := by rw [decide_eq_true_iff, CV.out]; exact hk
        have HK := Lib.hid hk
        rw [cb]
        clear cb hk
        go_wp2
        go_roundw
        case rel => exact ⟨i, h, by omega, by omega, by omega, rfl, rfl, HL.out, .inr HK.out, hOr.drewN _, hKr.drewN _⟩
        case measure => simp [intOf]; omega
      · have cb : decide (cmpV (k (d h)) (k (d m)) < 0) = false := by rw [decide_eq_false_iff_not, CV.out]; exact hk
        have HK := Lib.hid (Int.not_lt.1 hk)
        rw [cb]
        clear cb hk
        go_wp2
        go_roundw
        case rel => exact ⟨h + 1, j, by omega, by omega, by omega, by go_num, rfl, .inr HK.out, HR.out, hOr.drewN _, hKr.drewN _⟩
        case measure => simp [intOf]; omega
    · obtain rfl : i = j := by omega
      have SL := Lib.hid (sorted_right (k := k) (d := d) i0 jb hs hc (HL.out.imp id Int.not_lt.2) HR.out)
      clear hlt HL HR
      go_wp2
      go_loopw [17] (fun s wr => ∃ q : Nat, i ≤ q ∧ q ≤ m ∧ s = .int .i64 q ∧ Own wr p (tab N (shr d m q)) ∧ Kept B wr) (fun s _ => (intOf s).toNat)
      case atStart => exact ⟨m, by omega, by omega, rfl, by rw [shr_start]; exact hOr, hKr⟩
      case round =>
        clear hOr hKr
        obtain ⟨q, q0, q1, rfl, hO2, hK2⟩ := hrel
        by_cases hq : i < q
        · have hOs := fun (x : Nat) => (hO2.drewN x).swap (i := q) (j := q - 1) (by omega) (by omega)
          rw [shr_step d m q q1 (by omega)] at hOs
          have hc1 := hO2.cell q (by rw [tab_len]; omega)
          have hc2 := hO2.cell (q - 1) (by rw [tab_len]; omega)
          have hf := hO2.free q (by rw [tab_len]; omega)
          have hg := hO2.free (q - 1) (by rw [tab_len]; omega)
          rw [tab_get] at hc1 hc2
          generalize hx : shr d m q q = x at *
          generalize hy : shr d m q (q - 1) = y at *
          have HO := Lib.hid hOs
          clear hOs hO2 hx hy
          have e2 : (q : Int) - 1 < (N : Int) := by omega
          have e3 : (q : Int) < (N : Int) := by omega
          have e4 : ((q : Int) - 1).toNat = q - 1 := by omega
          have e5 : (1 : Int) ≤ (q : Int) := by omega
          have e6 : (0 : Int) ≤ (q : Int) - 1 := by omega
          have ne : q ≠ q - 1 := by omega
          go_wp2
          go_region
          all_goals go_wp2
          all_goals
            go_roundw
            case rel => exact ⟨q - 1, by omega, by omega, by congr 1; omega, HO.out 1, (((hK2.drewN 1).setAt hp _).setAt hp _)⟩
            case measure => simp [intOf]; omega
        · obtain rfl : q = i := by omega
          rw [shr_end d m q jb] at hO2
          go_wp2
          go_end0
          exact ⟨_, rfl, hO2, hK2, SegPerm.rot d q m (m + 1) i0 jb (by omega) (Nat.le_refl _), SL.out⟩

end Go.Proofs.Ytdgiljndoeldcaa
