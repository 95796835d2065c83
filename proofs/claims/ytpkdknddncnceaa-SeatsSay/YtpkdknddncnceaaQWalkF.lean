/-
  What the library's stable_func does to the row of claims: they come in order, those that are alike as they were. No condition but those that each theorem names.
-/
import Derived.Test.YtpkdknddncnceaaQWalkE
import Derived.Test.YtpkdknddncnceaaQMathB
namespace Go.Proofs.Ytpkdknddncnceaa
open Go.RowKit

/-- What the sort leaves. -/
def StablePost (B w : World) (p N bx cap : Nat) (C : Cl) (k : Int → Int) (e : Ending) (w' : World) : Prop := ∃ d, e = .returned (.tuple #[]) ∧ St B w' p N bx cap C d ∧ Turn p w w' ∧ Ordered k N d
section
variable {B w : World} {p N bx cap : Nat} {C : Cl} {k : Int → Int} {sf : Nat} {sb : Array Value}
set_option maxRecDepth 100000 in
set_option maxHeartbeats 8000000 in
theorem stable_any (E : Env B p N bx cap C k sf sb) (hS : St B w p N bx cap C idn) :
    Calls Try.prog 35 #[.agg #[lessV bx, swapV sf sb], .int .i64 (N : Int)] w (StablePost B w p N bx cap C k) := by
  have hN := E.hN
  have EE := Lib.hid E
  have hF := FB.new (w := w) (lv := lessV bx) (sv := swapV sf sb) (t := 61)
  have hK := (Kept.refl w).alloc (.cells #[lessV bx, swapV sf sb] 61)
  have hne : w.heap.size ≠ p := by have := hS.row.lt; omega
  have hS1 := hS.later hK
  have hT1 : Turn p w (w.alloc (.cells #[lessV bx, swapV sf sb] 61)) := Turn.kept hK
  clear hS hK E
  go_enter Try.func35, Try.ntmps35
  go_wp2_with fail
  generalize w.alloc (.cells #[lessV bx, swapV sf sb] 61) = w1 at *
  generalize w.heap.size = fb at *
  go_loopw [5, 6] (fun s u wr => ∃ (t : Nat) (d : Nat → Int), 20 * t ≤ N ∧ s = .int .i64 ((20 * t : Nat) : Int) ∧ u = .int .i64 ((20 * t + 20 : Nat) : Int) ∧ Fst k N t d ∧ St B wr p N bx cap C d ∧ Turn p w1 wr) (fun s _ _ => (N - intOf s).toNat)
  case atStart => exact ⟨0, idn, by omega, rfl, rfl, Fst.start k N, hS1, Turn.refl _ _⟩
  case round =>
    clear hS1
    obtain ⟨t, d, t0, rfl, rfl, hB, hOr, hKr⟩ := hrel
    have F := hF.turn hKr hne
    have c0 := F.c0
    have c1 := F.c1
    clear F
    by_cases hlt : 20 * t + 20 ≤ N
    · have lb : decide (((20 * t + 20 : Nat) : Int) ≤ (N : Int)) = true := by simp; omega
      go_wp2_with fail
      refine (insertion_any EE.out (20 * t) (20 * t + 20) _ _ (by omega) (by omega) (by omega) hlt hB.inR (hB.outer _ hlt) hOr).mono ?_
      rintro e w2 ⟨e1, rfl, hO1, hK1, hP1, hS1⟩
      have HB := Lib.hid (hB.step hlt hP1 hS1)
      have hK2 := hKr.trans hK1
      clear hB hP1 hS1 hKr hK1 hOr c0 c1
      go_wp2
      go_roundw
      case rel => exact ⟨t + 1, e1, by omega, by go_num, by go_num, HB.out, hO1, hK2⟩
      case measure => simp [intOf]; omega
    · have lb : decide (((20 * t + 20 : Nat) : Int) ≤ (N : Int)) = false := by simp; omega
      have lc : decide (20 * t + 20 ≤ N) = false := by simp; omega
      go_wp2_with fail
      refine (insertion_any EE.out (20 * t) N _ _ (by omega) (by omega) t0 (Nat.le_refl _) hB.inR (hB.outer _ (Nat.le_refl _)) hOr).mono ?_
      rintro e w2 ⟨e1, rfl, hO1, hK1, hP1, hS1⟩
      have HB := Lib.hid (hB.last (by omega) t0 hP1 hS1)
      have hK2 := hKr.trans hK1
      clear hB hP1 hS1 lb lc hKr hK1 hOr c0 c1
      go_wp2_with fail
      go_loopw [4] (fun s wr => ∃ (z : Nat) (f : Nat → Int), 20 ≤ z ∧ z ≤ 4000000 ∧ s = .int .i64 z ∧ Bks k N z f ∧ St B wr p N bx cap C f ∧ Turn p w1 wr) (fun s _ => (N - intOf s).toNat)
      case atStart => exact ⟨20, e1, by omega, by omega, rfl, HB.out, hO1, hK2⟩
      case round =>
        clear hO1 hK2 HB
        obtain ⟨z, f, z0, z1, rfl, hB, hO2, hK2⟩ := hrel
        have HB := Lib.hid hB
        clear hB
        by_cases hz : z < N
        · go_wp2_with fail
          go_loopw [5, 6] (fun s u wr => ∃ (t : Nat) (g : Nat → Int), t * (2 * z) ≤ N ∧ s = .int .i64 ((t * (2 * z) : Nat) : Int) ∧ u = .int .i64 ((t * (2 * z) + 2 * z : Nat) : Int) ∧ Mxd k N z t g ∧ St B wr p N bx cap C g ∧ Turn p w1 wr) (fun s _ _ => (N - intOf s).toNat)
          case atStart => exact ⟨0, f, by omega, by simp, by congr 1; simp, HB.out.mxd, hO2, hK2⟩
          case round =>
            clear hO2 hK2 HB
            obtain ⟨t, g, t0, rfl, rfl, hM, hO3, hK3⟩ := hrel
            have E3 := (two_mul_s t z).2.2
            have F := hF.turn hK3 hne
            have c0 := F.c0
            have c1 := F.c1
            clear F
            generalize hq : t * (2 * z) = q at *
            have HQ := Lib.hid hq
            have HE := Lib.hid E3
            clear hq E3
            by_cases hl : q + 2 * z ≤ N
            · have lb : decide (((q + 2 * z : Nat) : Int) ≤ (N : Int)) = true := by simp; omega
              have lc : decide (q + 2 * z ≤ N) = true := by simp; omega
              have T2 := hM.two (by omega) (q + 2 * z) (by rw [HQ.out]; omega) (.inl ⟨by rw [HQ.out], hl⟩)
              rw [HQ.out] at T2
              have MP := Lib.hid (show MPre N q (q + z) (q + 2 * z) k g from ⟨by omega, by omega, hl, hM.inR, T2.1.srt, T2.2.srt, T2.1.cross T2.2⟩)
              have HM := Lib.hid hM
              clear T2 hM
              go_wp2_with fail
              refine (merge_any EE.out (2 * z) q (q + z) (q + 2 * z) _ _ _ g _ (by omega) (by omega) (by omega) (by omega) MP.out hO3).mono ?_
              rintro e w4 ⟨h, rfl, hO4, hK4, hP4, hS4⟩
              have OR := Lib.hid (HM.out.step (by omega) (by rw [HQ.out]; exact hl) (by rw [HQ.out]; exact hP4) (by rw [HQ.out]; exact hS4))
              have hK5 := hK3.trans hK4
              clear hP4 hS4 hK3 hK4 hO3 c0 c1 MP HM lb lc
              go_wp2
              go_roundw
              case rel => exact ⟨t + 1, h, by rw [HE.out]; omega, by rw [HE.out, show ((q + 2 * z : Nat) : Int) = (q : Int) + 2 * (z : Int) by omega], by rw [HE.out, show ((q + 2 * z + 2 * z : Nat) : Int) = (q : Int) + 2 * (z : Int) + 2 * (z : Int) by omega], OR.out, hO4, hK5⟩
              case measure => simp [intOf]; omega
            · have lb : decide (((q + 2 * z : Nat) : Int) ≤ (N : Int)) = false := by simp; omega
              have lc : decide (q + 2 * z ≤ N) = false := by simp; omega
              by_cases hm : q + z < N
              · have ld : decide ((q : Int) + (z : Int) < (N : Int)) = true := by simp; omega
                have T2 := hM.two (by omega) N (by rw [HQ.out]; omega) (.inr ⟨rfl, by rw [HQ.out]; omega⟩)
                rw [HQ.out] at T2
                have MP := Lib.hid (show MPre N q (q + z) N k g from ⟨by omega, hm, Nat.le_refl _, hM.inR, T2.1.srt, T2.2.srt, T2.1.cross T2.2⟩)
                have HM := Lib.hid hM
                clear T2 hM
                go_wp2_with fail
                refine (merge_any EE.out N q (q + z) N _ _ _ g _ (by omega) (by omega) (by omega) (by omega) MP.out hO3).mono ?_
                rintro e w4 ⟨h, rfl, hO4, hK4, hP4, hS4⟩
                have OR := Lib.hid (HM.out.last (by omega) (by rw [HQ.out]; omega) (by rw [HQ.out]; exact hm) (by rw [HQ.out]; exact hP4) (by rw [HQ.out]; exact hS4))
                have hK5 := hK3.trans hK4
                clear hP4 hS4 hK3 hK4 hO3 c0 c1 MP HM lb lc ld
                go_wp2
                go_roundw
                case rel => exact ⟨2 * z, h, by omega, by omega, by congr 1; omega, OR.out, hO4, hK5⟩
                case measure => simp [intOf]; omega
              · have ld : decide ((q : Int) + (z : Int) < (N : Int)) = false := by simp; omega
                have OR := Lib.hid (hM.none (by rw [HQ.out]; omega) (by rw [HQ.out]; omega))
                clear hM c0 c1
                go_wp2
                go_roundw
                case rel => exact ⟨2 * z, g, by omega, by omega, by congr 1; omega, OR.out, hO3, hK3⟩
                case measure => simp [intOf]; omega
        · have lb : decide ((z : Int) < (N : Int)) = false := by simp; omega
          have lc : decide (z < N) = false := by simp; omega
          have OR := Lib.hid (HB.out.all (by omega))
          clear hz
          go_wp2
          go_end0
          exact ⟨f, rfl, hO2, hT1.trans hK2, OR.out⟩
end

end Go.Proofs.Ytpkdknddncnceaa
