/-
  What the library's symMerge_func does where one of the two parts is a single claim. No condition but those that each theorem names.
-/
import Derived.Test.YtpkdknddncnceaaQWalkC
namespace Go.Proofs.Ytpkdknddncnceaa
open Go.RowKit

/-- What symMerge asks of the numbers. -/
structure MPre (N a m b : Nat) (k : Int → Int) (d : Nat → Int) : Prop where
  h1 : a < m
  h2 : m < b
  h3 : b ≤ N
  hI : InR N d
  hs : Sorted k d a m
  ht : Sorted k d m b
  hc : Cross k d a m b
/-- The middle of two places. -/
theorem mid_nat (i j : Nat) : ∃ h : Nat, ((i : Int) + (j : Int)) / 2 = (h : Int) ∧ h = (i + j) / 2 := ⟨(i + j) / 2, by omega, rfl⟩
section
variable {B w : World} {p N bx cap : Nat} {C : Cl} {k : Int → Int} {sf : Nat} {sb : Array Value} {d : Nat → Int}
set_option maxRecDepth 100000 in
set_option maxHeartbeats 4000000 in
theorem merge_left (E : Env B p N bx cap C k sf sb) (a b : Nat) (hM : MPre N a (a + 1) b k d) (hS : St B w p N bx cap C d) :
    Calls Try.prog 47 #[.agg #[lessV bx, swapV sf sb], .int .i64 (a : Int), .int .i64 ((a : Int) + 1), .int .i64 (b : Int)] w (SrtPost B w p N bx cap C k d a b) := by
  obtain ⟨h1, h2, h3, hI, hs, ht, hc⟩ := hM
  have hN := E.hN
  have EE := Lib.hid E
  have hF := FB.new (w := w) (lv := lessV bx) (sv := swapV sf sb) (t := 61)
  have hK := (Kept.refl w).alloc (.cells #[lessV bx, swapV sf sb] 61)
  have hne : w.heap.size ≠ p := by have := hS.row.lt; omega
  have hS1 := hS.later hK
  have hT1 : Turn p w (w.alloc (.cells #[lessV bx, swapV sf sb] 61)) := Turn.kept hK
  clear hS hK E
  have m1 : ((a : Int) + 1 - (a : Int) == 1) = true := by rw [beq_iff_eq]; omega
  go_enter Try.func47, Try.ntmps47
  go_wp2_with fail
  generalize w.alloc (.cells #[lessV bx, swapV sf sb] 61) = w1 at *
  generalize w.heap.size = fb at *
  go_loopw [8, 9] (fun s t wr => ∃ i j : Nat, a + 1 ≤ i ∧ i ≤ j ∧ j ≤ b ∧ s = .int .i64 i ∧ t = .int .i64 j ∧ (i = a + 1 ∨ k (d a) < k (d (i - 1))) ∧ (j = b ∨ k (d j) ≤ k (d a)) ∧ St B wr p N bx cap C d ∧ Turn p w1 wr) (fun s t _ => (intOf t - intOf s).toNat)
  case atStart => exact ⟨a + 1, b, by omega, by omega, by omega, by go_num, rfl, .inl rfl, .inl rfl, hS1, Turn.refl _ _⟩
  case round =>
    clear hS1
    obtain ⟨i, j, i0, ij, jb, rfl, rfl, hl, hr, hOr, hKr⟩ := hrel
    have HL := Lib.hid hl
    have HR := Lib.hid hr
    clear hl hr
    have F := hF.turn hKr hne
    have c0 := F.c0
    by_cases hlt : i < j
    · obtain ⟨h, hh, he⟩ := mid_nat i j
      have HH := Lib.hid hh
      have x1 : i ≤ h := by omega
      have x2 : h < j := by omega
      clear hh he
      have LS := Lib.hid (EE.out.less hI hOr h a (h : Int) (a : Int) rfl rfl (by omega) (by omega))
      go_wp2_with fail
      rw [HH.out]
      refine (LS.out).mono ?_
      rintro e w2 ⟨rfl, hk2⟩
      have hO3 := hOr.later hk2
      have hK3 := hKr.trans (Turn.kept hk2)
      clear hOr hKr hk2 F c0 LS
      by_cases hk : k (d a) < k (d h)
      · have cb : decide (k (d a) < k (d h)) = true := by simpa using hk
        have HK := Lib.hid hk
        rw [cb]
        clear cb hk
        go_wp2
        go_roundw
        case rel => exact ⟨h + 1, j, by omega, by omega, by omega, by go_num, rfl, .inr HK.out, HR.out, hO3, hK3⟩
        case measure => simp [intOf]; omega
      · have cb : decide (k (d a) < k (d h)) = false := by simpa using hk
        have HK := Lib.hid (Int.not_lt.1 hk)
        rw [cb]
        clear cb hk
        go_wp2
        go_roundw
        case rel => exact ⟨i, h, by omega, by omega, by omega, rfl, rfl, HL.out, .inr HK.out, hO3, hK3⟩
        case measure => simp [intOf]; omega
    · obtain rfl : i = j := by omega
      have SL := Lib.hid (sorted_left (k := k) (d := d) i0 jb ht hc HL.out (HR.out.imp id Int.not_lt.2))
      clear hlt HL HR F c0
      go_wp2
      go_loopw [11] (fun s wr => ∃ q : Nat, a ≤ q ∧ q ≤ i - 1 ∧ s = .int .i64 q ∧ St B wr p N bx cap C (shl d a q) ∧ Turn p w1 wr) (fun s _ => (i - intOf s).toNat)
      case atStart => exact ⟨a, by omega, by omega, rfl, by rw [shl_start]; exact hOr, hKr⟩
      case round =>
        clear hOr hKr
        obtain ⟨q, q0, q1, rfl, hO2, hK2⟩ := hrel
        by_cases hq : q < i - 1
        · obtain ⟨w3, hs3, hS3, hT3⟩ := EE.out.swap hO2 q (q + 1) (q : Int) ((q : Int) + 1) rfl (by omega) (by omega) (by omega) (by omega)
          rw [shl_step d a q q0] at hS3
          have c1 := (hF.turn hK2 hne).c1
          have HS := Lib.hid hs3
          have HK := Lib.hid (hK2.trans hT3)
          clear hs3 hO2 hK2 hT3
          have e1 : (q : Int) < (i : Int) - 1 := by omega
          have e5 : (1 : Int) ≤ (i : Int) := by omega
          go_wp2
          rw [HS.out, Oper.upon_value]
          go_wp2
          go_roundw
          case rel => exact ⟨q + 1, by omega, by omega, by go_num, hS3, HK.out⟩
          case measure => simp [intOf]; omega
        · obtain rfl : q = i - 1 := by omega
          rw [shl_end d a i i0] at hO2
          have e1 : decide (((i - 1 : Nat) : Int) < (i : Int) - 1) = false := by simp; omega
          have e2 : ((i - 1 : Nat) : Int) = (i : Int) - 1 := by omega
          have e5 : (1 : Int) ≤ (i : Int) := by omega
          go_wp2
          go_end0
          exact ⟨_, rfl, hO2, hT1.trans hK2, SegPerm.rot d a (a + 1) i (Nat.le_refl _) (by omega) i0 jb, SL.out⟩
set_option maxRecDepth 100000 in
set_option maxHeartbeats 4000000 in
theorem merge_right (E : Env B p N bx cap C k sf sb) (a m : Nat) (hnm : a + 1 < m) (hM : MPre N a m (m + 1) k d) (hS : St B w p N bx cap C d) :
    Calls Try.prog 47 #[.agg #[lessV bx, swapV sf sb], .int .i64 (a : Int), .int .i64 (m : Int), .int .i64 ((m : Int) + 1)] w (SrtPost B w p N bx cap C k d a (m + 1)) := by
  obtain ⟨h1, h2, h3, hI, hs, ht, hc⟩ := hM
  have hN := E.hN
  have EE := Lib.hid E
  have hF := FB.new (w := w) (lv := lessV bx) (sv := swapV sf sb) (t := 61)
  have hK := (Kept.refl w).alloc (.cells #[lessV bx, swapV sf sb] 61)
  have hne : w.heap.size ≠ p := by have := hS.row.lt; omega
  have hS1 := hS.later hK
  have hT1 : Turn p w (w.alloc (.cells #[lessV bx, swapV sf sb] 61)) := Turn.kept hK
  clear hS hK E
  have m0 : ((m : Int) - (a : Int) == 1) = false := by rw [beq_eq_false_iff_ne]; omega
  have m1 : ((m : Int) + 1 - (m : Int) == 1) = true := by rw [beq_iff_eq]; omega
  go_enter Try.func47, Try.ntmps47
  go_wp2_with fail
  generalize w.alloc (.cells #[lessV bx, swapV sf sb] 61) = w1 at *
  generalize w.heap.size = fb at *
  go_loopw [12, 13] (fun s t wr => ∃ i j : Nat, a ≤ i ∧ i ≤ j ∧ j ≤ m ∧ s = .int .i64 i ∧ t = .int .i64 j ∧ (i = a ∨ k (d m) ≤ k (d (i - 1))) ∧ (j = m ∨ k (d j) < k (d m)) ∧ St B wr p N bx cap C d ∧ Turn p w1 wr) (fun s t _ => (intOf t - intOf s).toNat)
  case atStart => exact ⟨a, m, by omega, by omega, by omega, rfl, rfl, .inl rfl, .inl rfl, hS1, Turn.refl _ _⟩
  case round =>
    clear hS1
    obtain ⟨i, j, i0, ij, jb, rfl, rfl, hl, hr, hOr, hKr⟩ := hrel
    have HL := Lib.hid hl
    have HR := Lib.hid hr
    clear hl hr
    have F := hF.turn hKr hne
    have c0 := F.c0
    by_cases hlt : i < j
    · obtain ⟨h, hh, he⟩ := mid_nat i j
      have HH := Lib.hid hh
      have x1 : i ≤ h := by omega
      have x2 : h < j := by omega
      clear hh he
      have LS := Lib.hid (EE.out.less hI hOr m h (m : Int) (h : Int) rfl rfl (by omega) (by omega))
      go_wp2_with fail
      rw [HH.out]
      refine (LS.out).mono ?_
      rintro e w2 ⟨rfl, hk2⟩
      have hO3 := hOr.later hk2
      have hK3 := hKr.trans (Turn.kept hk2)
      clear hOr hKr hk2 F c0 LS
      by_cases hk : k (d h) < k (d m)
      · have cb : decide (k (d h) < k (d m)) = true := by simpa using hk
        have HK := Lib.hid hk
        rw [cb]
        clear cb hk
        go_wp2
        go_roundw
        case rel => exact ⟨i, h, by omega, by omega, by omega, rfl, rfl, HL.out, .inr HK.out, hO3, hK3⟩
        case measure => simp [intOf]; omega
      · have cb : decide (k (d h) < k (d m)) = false := by simpa using hk
        have HK := Lib.hid (Int.not_lt.1 hk)
        rw [cb]
        clear cb hk
        go_wp2
        go_roundw
        case rel => exact ⟨h + 1, j, by omega, by omega, by omega, by go_num, rfl, .inr HK.out, HR.out, hO3, hK3⟩
        case measure => simp [intOf]; omega
    · obtain rfl : i = j := by omega
      have SL := Lib.hid (sorted_right (k := k) (d := d) i0 jb hs hc (HL.out.imp id Int.not_lt.2) HR.out)
      clear hlt HL HR F c0
      go_wp2
      go_loopw [15] (fun s wr => ∃ q : Nat, i ≤ q ∧ q ≤ m ∧ s = .int .i64 q ∧ St B wr p N bx cap C (shr d m q) ∧ Turn p w1 wr) (fun s _ => (intOf s).toNat)
      case atStart => exact ⟨m, by omega, by omega, rfl, by rw [shr_start]; exact hOr, hKr⟩
      case round =>
        clear hOr hKr
        obtain ⟨q, q0, q1, rfl, hO2, hK2⟩ := hrel
        by_cases hq : i < q
        · obtain ⟨w3, hs3, hS3, hT3⟩ := EE.out.swap hO2 q (q - 1) (q : Int) ((q : Int) - 1) rfl (by omega) (by omega) (by omega) (by omega)
          rw [shr_step d m q q1 (by omega)] at hS3
          have c1 := (hF.turn hK2 hne).c1
          have HS := Lib.hid hs3
          have HK := Lib.hid (hK2.trans hT3)
          clear hs3 hO2 hK2 hT3
          have e5 : (1 : Int) ≤ (q : Int) := by omega
          go_wp2
          rw [HS.out, Oper.upon_value]
          go_wp2
          go_roundw
          case rel => exact ⟨q - 1, by omega, by omega, by congr 1; omega, hS3, HK.out⟩
          case measure => simp [intOf]; omega
        · obtain rfl : q = i := by omega
          rw [shr_end d m q jb] at hO2
          go_wp2
          go_end0
          exact ⟨_, rfl, hO2, hT1.trans hK2, SegPerm.rot d q m (m + 1) i0 jb (by omega) (Nat.le_refl _), SL.out⟩
end

end Go.Proofs.Ytpkdknddncnceaa
