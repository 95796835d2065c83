/-
  What the library's rotate_func and insertionSort_func do to the row of claims. No condition but those that each theorem names.
-/
import Derived.Test.YtpkdknddncnceaaQWalkB
namespace Go.Proofs.Ytpkdknddncnceaa
open Go.RowKit

section
variable {B w : World} {p N bx cap : Nat} {C : Cl} {k : Int → Int} {sf : Nat} {sb : Array Value} {d : Nat → Int}
set_option maxRecDepth 100000 in
set_option maxHeartbeats 4000000 in
theorem rotate_any (E : Env B p N bx cap C k sf sb) (a m b : Nat) (x y z : Int) (hx : x = a) (hy : y = m) (hz : z = b) (h1 : a < m) (h2 : m < b) (h3 : b ≤ N) (hS : St B w p N bx cap C d) :
    Calls Try.prog 48 #[.agg #[lessV bx, swapV sf sb], .int .i64 x, .int .i64 y, .int .i64 z] w (Wrt B w p N bx cap C (rot d a m b)) := by
  subst hx hy hz
  have hN := E.hN
  have EE := Lib.hid E
  have hF := FB.new (w := w) (lv := lessV bx) (sv := swapV sf sb) (t := 61)
  have hK := (Kept.refl w).alloc (.cells #[lessV bx, swapV sf sb] 61)
  have hne : w.heap.size ≠ p := by have := hS.row.lt; omega
  have hS1 := hS.later hK
  have hT1 : Turn p w (w.alloc (.cells #[lessV bx, swapV sf sb] 61)) := Turn.kept hK
  have hU := ur_start d a m b (by omega) (by omega)
  generalize rot d a m b = T at *
  rw [← hU] at hS1
  clear hS hK E hU
  go_enter Try.func48, Try.ntmps48
  go_wp2_with fail
  generalize w.alloc (.cells #[lessV bx, swapV sf sb] 61) = w1 at *
  generalize w.heap.size = fb at *
  go_loopw [8, 9] (fun s t wr => ∃ i j : Nat, 1 ≤ i ∧ 1 ≤ j ∧ i ≤ m ∧ m + j ≤ N ∧ s = .int .i64 i ∧ t = .int .i64 j ∧ St B wr p N bx cap C (ur T m i j) ∧ Turn p w1 wr) (fun s t _ => (intOf s + intOf t).toNat)
  case atStart => exact ⟨m - a, b - m, by omega, by omega, by omega, by omega, by congr 1; omega, by congr 1; omega, hS1, Turn.refl _ _⟩
  case round =>
    clear hS1
    obtain ⟨i, j, i1, j1, im, jN, rfl, rfl, hSr, hTr⟩ := hrel
    have F := hF.turn hTr hne
    have c0 := F.c0
    have c1 := F.c1
    clear F
    rcases (show i = j ∨ j < i ∨ i < j by omega) with e | e | e
    · subst e
      go_wp2_with fail
      refine (swapRange_any EE.out (m - i) m i _ _ _ (by omega) (by omega) (by omega) (by omega) (by omega) hSr).mono ?_
      rintro e w2 ⟨rfl, hS2, hT2⟩
      rw [ur_end T m i im] at hS2
      go_wp2
      go_end0
      exact ⟨rfl, hS2, hT1.trans (hTr.trans hT2)⟩
    · have n1 : (i != j) = true := by rw [bne_iff_ne]; omega
      have n2 : ((i : Int) != (j : Int)) = true := by rw [bne_iff_ne]; omega
      have n3 : decide (j < i) = true := by simpa using e
      go_wp2_with fail
      refine (swapRange_any EE.out (m - i) m j _ _ _ (by omega) (by omega) (by omega) (by omega) (by omega) hSr).mono ?_
      rintro e w2 ⟨rfl, hS2, hT2⟩
      rw [ur_left T m i j (by omega) im] at hS2
      have hT3 := hTr.trans hT2
      clear hTr hT2 hSr c0 c1
      go_wp2
      go_roundw
      case rel => exact ⟨i - j, j, by omega, by omega, by omega, by omega, by congr 1; omega, rfl, hS2, hT3⟩
      case measure => simp [intOf]; omega
    · have n1 : (i != j) = true := by rw [bne_iff_ne]; omega
      have n2 : ((i : Int) != (j : Int)) = true := by rw [bne_iff_ne]; omega
      have n3 : decide (j < i) = false := by simp; omega
      go_wp2_with fail
      refine (swapRange_any EE.out (m - i) (m + j - i) i _ _ _ (by omega) (by omega) (by omega) (by omega) (by omega) hSr).mono ?_
      rintro e w2 ⟨rfl, hS2, hT2⟩
      rw [ur_right T m i j (by omega) im] at hS2
      have hT3 := hTr.trans hT2
      clear hTr hT2 hSr c0 c1
      go_wp2
      go_roundw
      case rel => exact ⟨i, j - i, by omega, by omega, by omega, by omega, rfl, by congr 1; omega, hS2, hT3⟩
      case measure => simp [intOf]; omega

/-- A row in order from a to b, of what was there. -/
def SrtPost (B w : World) (p N bx cap : Nat) (C : Cl) (k : Int → Int) (d : Nat → Int) (a b : Nat) (e : Ending) (w' : World) : Prop :=
  ∃ d', e = .returned (.tuple #[]) ∧ St B w' p N bx cap C d' ∧ Turn p w w' ∧ SegPerm a b d d' ∧ Sorted k d' a b
set_option maxRecDepth 100000 in
set_option maxHeartbeats 4000000 in
theorem insertion_any (E : Env B p N bx cap C k sf sb) (a b : Nat) (x y : Int) (hx : x = a) (hy : y = b) (h1 : a ≤ b) (h2 : b ≤ N) (hI : InR N d) (hU : Outer k d a b (a + 1)) (hS : St B w p N bx cap C d) :
    Calls Try.prog 46 #[.agg #[lessV bx, swapV sf sb], .int .i64 x, .int .i64 y] w (SrtPost B w p N bx cap C k d a b) := by
  subst hx hy
  have hN := E.hN
  have EE := Lib.hid E
  have hF := FB.new (w := w) (lv := lessV bx) (sv := swapV sf sb) (t := 61)
  have hK := (Kept.refl w).alloc (.cells #[lessV bx, swapV sf sb] 61)
  have hne : w.heap.size ≠ p := by have := hS.row.lt; omega
  have hS1 := hS.later hK
  have hT1 : Turn p w (w.alloc (.cells #[lessV bx, swapV sf sb] 61)) := Turn.kept hK
  clear hS hK E
  go_enter Try.func46, Try.ntmps46
  go_wp2_with fail
  generalize w.alloc (.cells #[lessV bx, swapV sf sb] 61) = w1 at *
  generalize w.heap.size = fb at *
  go_loopw [6] (fun s wr => ∃ (i : Nat) (d1 : Nat → Int), a + 1 ≤ i ∧ i ≤ b + 1 ∧ s = .int .i64 i ∧ Outer k d1 a b i ∧ SegPerm a b d d1 ∧ St B wr p N bx cap C d1 ∧ Turn p w1 wr) (fun s _ => (b + 1 - intOf s).toNat)
  case atStart => exact ⟨a + 1, d, by omega, by omega, by go_num, hU, SegPerm.refl a b d, hS1, Turn.refl _ _⟩
  case round =>
    clear hS1
    obtain ⟨i, d1, i0, i1, rfl, hU1, hP1, hO1, hK1⟩ := hrel
    by_cases hlt : i < b
    · have hI1 := hP1.inR h2 hI
      go_wp2
      go_loopw [7] (fun s wr => ∃ (j : Nat) (d2 : Nat → Int), a ≤ j ∧ j ≤ i ∧ s = .int .i64 j ∧ Ins k d2 a i j ∧ SegPerm a (i + 1) d1 d2 ∧ St B wr p N bx cap C d2 ∧ Turn p w1 wr) (fun s _ => (intOf s).toNat)
      case atStart => exact ⟨i, d1, by omega, by omega, rfl, Ins.start hU1.1 hU1.cross hlt, SegPerm.refl _ _ _, hO1, hK1⟩
      case round =>
        clear hO1 hK1
        obtain ⟨j, d2, j0, j1, rfl, hI2, hP2, hO2, hK2⟩ := hrel
        by_cases hj : a < j
        · have hR2 := hP2.inR (show i + 1 ≤ N by omega) hI1
          have F := hF.turn hK2 hne
          have c0 := F.c0
          have ST := Lib.hid (hI2.step hj j1)
          have DN := Lib.hid (fun h => hI2.done j0 j1 (.inr h))
          have LS := Lib.hid (EE.out.less hR2 hO2 j (j - 1) (j : Int) ((j : Int) - 1) rfl (by omega) (by omega) (by omega))
          clear hI2 hR2
          have e1 : (a : Int) < (j : Int) := by omega
          have e7 : (1 : Int) ≤ (j : Int) := by omega
          by_cases hl : k (d2 (j - 1)) < k (d2 j)
          · have cb := Lib.hid (show decide (k (d2 (j - 1)) < k (d2 j)) = true by simpa using hl)
            have HL := Lib.hid hl
            clear hl
            go_wp2_with fail
            refine (LS.out).mono ?_
            rintro e w2 ⟨rfl, hk2⟩
            rw [cb.out]
            have hO3 := hO2.later hk2
            have hK3 := hK2.trans (Turn.kept hk2)
            have c1 := (hF.turn hK3 hne).c1
            obtain ⟨w3, hs, hS3, hT3⟩ := EE.out.swap hO3 j (j - 1) (j : Int) ((j : Int) - 1) rfl (by omega) (by omega) (by omega) (by omega)
            have HS := Lib.hid hs
            have HK := Lib.hid (hK3.trans hT3)
            clear hs hO2 hO3 hK2 hK3 hT3 hk2 F c0 LS
            go_wp2
            rw [HS.out, Oper.upon_value]
            go_wp2
            go_roundw
            case rel => exact ⟨j - 1, sw d2 j (j - 1), by omega, by omega, by congr 1; omega, ST.out HL.out, hP2.trans (SegPerm.swap d2 (by omega) (by omega)), hS3, HK.out⟩
            case measure => simp [intOf]; omega
          · have cb := Lib.hid (show decide (k (d2 (j - 1)) < k (d2 j)) = false by simpa using hl)
            have HL := Lib.hid hl
            clear hl
            go_wp2_with fail
            refine (LS.out).mono ?_
            rintro e w2 ⟨rfl, hk2⟩
            rw [cb.out]
            have hO3 := hO2.later hk2
            have hK3 := hK2.trans (Turn.kept hk2)
            clear hO2 hK2 hk2 F c0 LS
            go_wp2
            go_roundw
            case rel => exact ⟨i + 1, d2, by omega, by omega, by go_num, hU1.step hP2 (DN.out HL.out), hP1.trans (hP2.mono (Nat.le_refl _) (by omega)), hO3, hK3⟩
            case measure => simp [intOf]; omega
        · obtain rfl : j = a := by omega
          have DN := Lib.hid (hI2.done (Nat.le_refl _) j1 (.inl rfl))
          have gb : decide ((j : Int) < (j : Int)) = false := by simp
          have gc : decide (j < j) = false := by simp
          clear hj hI2
          go_wp2
          go_roundw
          case rel => exact ⟨i + 1, d2, by omega, by omega, by go_num, hU1.step hP2 DN.out, hP1.trans (hP2.mono (Nat.le_refl _) (by omega)), hO2, hK2⟩
          case measure => simp [intOf]; omega
    · have hn : decide (i < b) = false := by simpa using hlt
      go_wp2
      go_end0
      exact ⟨d1, rfl, hO1, hT1.trans hK1, hP1, fun p q a1 a2 a3 => hU1.1 p q a1 a2 (by omega)⟩
end

end Go.Proofs.Ytpkdknddncnceaa
