/-
  What the library's symMergeCmpFunc does where the right one of the two parts is a single number. No condition but those that the theorem names.
-/
import Derived.Test.YtdgiljndoeldcaaGSrtC
namespace Go.Proofs.Ytdgiljndoeldcaa
open Go.RowKit Go.Sort
set_option linter.unusedVariables false
variable {C : Int → Mv} {cap : Nat}

set_option maxRecDepth 100000 in
set_option maxHeartbeats 4000000 in
theorem imerge_right (p N a m : Nat) (k : Int → Int) (d : Nat → Int) (B w : World) (hne : a + 1 < m) (hM : IMergePre C B w p N a m (m + 1) k d) :
    Calls Try.prog 90 #[.slice (some ⟨p, 0, none⟩) N cap, .int .i64 (a : Int), .int .i64 (m : Int), .int .i64 ((m : Int) + 1), iordF] w (ISortedPost C B p N k d a (m + 1)) := by
  obtain ⟨hN, h1, h2, h3, hI, hs, ht, hc, hC, hO, hp, hK⟩ := hM
  have m0 : ((m : Int) - (a : Int) == 1) = false := by rw [beq_eq_false_iff_ne]; omega
  have m1 : ((m : Int) + 1 - (m : Int) == 1) = true := by rw [beq_iff_eq]; omega
  have rm := hI m (by omega)
  go_enter Try.func90, Try.ntmps90
  go_wp2
  go_loopw [14, 15] (fun s t wr => ∃ i j : Nat, a ≤ i ∧ i ≤ j ∧ j ≤ m ∧ s = .int .i64 i ∧ t = .int .i64 j ∧ (i = a ∨ k (d m) ≤ k (d (i - 1))) ∧ (j = m ∨ k (d j) < k (d m)) ∧ IOw C wr p N d ∧ Kept B wr) (fun s t _ => (intOf t - intOf s).toNat)
  case atStart => exact ⟨a, m, by omega, by omega, by omega, rfl, rfl, .inl rfl, .inl rfl, hO, hK⟩
  case round =>
    obtain ⟨i, j, i0, ij, jb, rfl, rfl, hl, hr, hOr, hKr⟩ := hrel
    have HL := Lib.hid hl
    have HR := Lib.hid hr
    clear hl hr
    by_cases hlt : i < j
    · obtain ⟨h, hh, he⟩ := mid_nat i j
      have HH := Lib.hid hh
      have x1 : i ≤ h := by omega
      have x2 : h < j := by omega
      clear hh he
      have rh := hI h (by omega)
      have hc1 := fun (n : Nat) (os : Array Obj) => (hOr.later (kept_grown (Kept.refl wr) n os)).c0 h (by omega)
      have hc1' := fun (n : Nat) (os : Array Obj) => (hOr.later (kept_grown (Kept.refl wr) n os)).c1 h (by omega)
      have hc2 := fun (n : Nat) (os : Array Obj) => (hOr.later (kept_grown (Kept.refl wr) n os)).c0 m (by omega)
      have hc2' := fun (n : Nat) (os : Array Obj) => (hOr.later (kept_grown (Kept.refl wr) n os)).c1 m (by omega)
      have CV := Lib.hid (cmpV_neg (k (d h)) (k (d m)))
      have CO := Lib.hid (fun (n : Nat) (os : Array Obj) => hC (d m) (d h) (grow (wr.drewN n) os))
      have e1 : (h : Int) < (N : Int) := by omega
      have e2 : (m : Int) < (N : Int) := by omega
      go_wp2_with fail
      rw [HH.out]
      have mixed := mixedP
      go_quiet_grown (first | (go_at_call 38; refine Calls.grown_of (CO.out _ _)))
      have KQ := kept_grown hKr nq osq
      have hOq := hOr.later (kept_grown (Kept.refl wr) nq osq)
      clear hc1 hc1' hc2 hc2' CO hOr hKr
      generalize grow (wr.drewN nq) osq = wq at *
      by_cases hk : k (d h) < k (d m)
      · have cb : decide (cmpV (k (d h)) (k (d m)) < 0) = true := by rw [decide_eq_true_iff, CV.out]; exact hk
        have HK := Lib.hid hk
        rw [cb]
        clear cb hk
        go_wp2
        go_roundw
        case rel => exact ⟨i, h, by omega, by omega, by omega, rfl, rfl, HL.out, .inr HK.out, hOq, KQ⟩
        case measure => simp [intOf]; omega
      · have cb : decide (cmpV (k (d h)) (k (d m)) < 0) = false := by rw [decide_eq_false_iff_not, CV.out]; exact hk
        have HK := Lib.hid (Int.not_lt.1 hk)
        rw [cb]
        clear cb hk
        go_wp2
        go_roundw
        case rel => exact ⟨h + 1, j, by omega, by omega, by omega, by go_num, rfl, .inr HK.out, HR.out, hOq, KQ⟩
        case measure => simp [intOf]; omega
    · obtain rfl : i = j := by omega
      have SL := Lib.hid (sorted_right (k := k) (d := d) i0 jb hs hc (HL.out.imp id Int.not_lt.2) HR.out)
      clear hlt HL HR
      go_wp2
      go_loopw [17] (fun s wr => ∃ q : Nat, i ≤ q ∧ q ≤ m ∧ s = .int .i64 q ∧ IOw C wr p N (shr d m q) ∧ Kept B wr) (fun s _ => (intOf s).toNat)
      case atStart => exact ⟨m, by omega, by omega, rfl, by rw [shr_start]; exact hOr, hKr⟩
      case round =>
        clear hOr hKr
        obtain ⟨q, q0, q1, rfl, hO2, hK2⟩ := hrel
        by_cases hq : i < q
        · have hOs := fun (x : Nat) => (hO2.drewN x).swap (i := q) (j := q - 1) (by omega) (by omega) (by omega)
          rw [shr_step d m q q1 (by omega)] at hOs
          have hc := hO2.c0 q (by omega)
          have hc' := hO2.c1 q (by omega)
          have hd := hO2.c0 (q - 1) (by omega)
          have hd' := hO2.c1 (q - 1) (by omega)
          have hf := hO2.f0 q (by omega)
          have hf' := hO2.f1 q (by omega)
          have hg := hO2.f0 (q - 1) (by omega)
          have hg' := hO2.f1 (q - 1) (by omega)
          generalize hx : C (shr d m q q) = x at *
          generalize hy : C (shr d m q (q - 1)) = y at *
          have HO := Lib.hid hOs
          clear hOs hO2 hx hy
          have e2 : (q : Int) - 1 < (N : Int) := by omega
          have e3 : (q : Int) < (N : Int) := by omega
          have e4 : ((q : Int) - 1).toNat = q - 1 := by omega
          have e5 : (1 : Int) ≤ (q : Int) := by omega
          have e6 : (0 : Int) ≤ (q : Int) - 1 := by omega
          have ne : q ≠ q - 1 := by omega
          go_wp2
          go_region
          all_goals go_wp2
          all_goals
            go_roundw
            case rel => exact ⟨q - 1, by omega, by omega, by congr 1; omega, HO.out 1, (((((hK2.drewN 1).setAt hp _).setAt hp _).setAt hp _).setAt hp _)⟩
            case measure => simp [intOf]; omega
        · obtain rfl : q = i := by omega
          rw [shr_end d m q jb] at hO2
          go_wp2
          go_end0
          exact ⟨_, rfl, hO2, hK2, SegPerm.rot d q m (m + 1) i0 jb (by omega) (Nat.le_refl _), SL.out⟩

end Go.Proofs.Ytdgiljndoeldcaa
