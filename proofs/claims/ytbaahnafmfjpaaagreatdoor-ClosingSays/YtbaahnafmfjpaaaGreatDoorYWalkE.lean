/-
  What the library's partialInsertionSort_func does to the row of entries. No condition but those that each theorem names.
-/
import Derived.Test.YtbaahnafmfjpaaaGreatDoorYWalkD
namespace Go.Proofs.YtbaahnafmfjpaaaGreatDoor
open Go.RowKit
set_option linter.unusedVariables false

theorem pisU_stop {d : Nat → Nat} {n i : Nat} (h : lsD d i (i - 1) = true) : pisU d (n + 1) i = i := by rw [pisU, h]; rfl
theorem pisU_go {d : Nat → Nat} {n i : Nat} (h : lsD d i (i - 1) = false) : pisU d (n + 1) i = pisU d n (i + 1) := by rw [pisU, h]; rfl
theorem pisU_bd {d : Nat → Nat} : ∀ (n i : Nat), i ≤ pisU d n i ∧ pisU d n i ≤ i + n
  | 0, i => ⟨Nat.le_refl _, Nat.le_refl _⟩
  | n + 1, i => by
    cases h : lsD d i (i - 1)
    · rw [pisU_go h]; have := pisU_bd (d := d) n (i + 1); omega
    · rw [pisU_stop h]; omega
theorem pisL_go {d : Nat → Nat} {j : Nat} (h : lsD d (j + 1) j = true) : pisL (j + 1) d = pisL j (swD d (j + 1) j) := by rw [pisL, h]; rfl
theorem pisL_stop {d : Nat → Nat} {j : Nat} (h : lsD d (j + 1) j = false) : pisL (j + 1) d = d := by rw [pisL, h]; rfl
/-- The three ways that it goes. -/
theorem pisO_ways {d d' : Nat → Nat} {a b : Nat} {ok : Bool} (h : pisO d a b = some (d', ok)) :
    (pisU d (b - (a + 1)) (a + 1) = b ∧ d' = d ∧ ok = true) ∨ (pisU d (b - (a + 1)) (a + 1) ≠ b ∧ b - a < 50 ∧ d' = d ∧ ok = false) ∨
      (∃ i, pisU d (b - (a + 1)) (a + 1) = i ∧ i + 1 = b ∧ 50 ≤ b - a ∧ a + 1 < i ∧ pisL (i - 1) (swD d i (i - 1)) = d' ∧ lsD d' i (i - 1) = false ∧ ok = true) := by
  unfold pisO at h
  simp only [] at h
  by_cases e : pisU d (b - (a + 1)) (a + 1) = b
  · rw [(beq_iff _ _).2 e] at h
    obtain ⟨rfl, rfl⟩ : d = d' ∧ true = ok := by simpa using h
    exact .inl ⟨e, rfl, rfl⟩
  · rw [beq_no e] at h
    by_cases l : b - a < 50
    · rw [(blt_iff _ _).2 l] at h
      obtain ⟨rfl, rfl⟩ : d = d' ∧ false = ok := by simpa using h
      exact .inr (.inl ⟨e, l, rfl, rfl⟩)
    · rw [blt_no l] at h
      generalize pisU d (b - (a + 1)) (a + 1) = i at *
      by_cases q : i + 1 = b
      · by_cases r : a + 1 < i
        · rw [(beq_iff _ _).2 q, (blt_iff _ _).2 r] at h
          cases z : lsD (pisL (i - 1) (swD d i (i - 1))) i (i - 1)
          · simp only [Bool.and_self, cond_true, cond_false, z] at h
            obtain ⟨rfl, rfl⟩ : pisL (i - 1) (swD d i (i - 1)) = d' ∧ true = ok := by simpa using h
            exact .inr (.inr ⟨i, rfl, q, by omega, r, rfl, z, rfl⟩)
          · simp only [Bool.and_self, cond_true, cond_false, z] at h
            cases h
        · rw [(beq_iff _ _).2 q, blt_no r] at h
          simp at h
      · rw [beq_no q] at h
        simp at h
section
variable {B w : World} {p N bx cap : Nat} {C : En} {sf : Nat} {sb : Array Value} {d : Nat → Nat}
/-- What it returns. -/
def PiY (B w : World) (p N bx cap : Nat) (C : En) (d : Nat → Nat) (ok : Bool) (e : Ending) (w' : World) : Prop := e = .returned (.bool ok) ∧ Sy B w' p N bx cap C d ∧ Turn p w w' ∧ InY N d
set_option maxRecDepth 100000 in
set_option maxHeartbeats 2000000 in
theorem pisY_any (E : EnvY B p N bx cap C sf sb) (a b : Nat) (x y : Int) (hx : x = a) (hy : y = b) (h1 : 13 + a ≤ b) (h2 : b ≤ N) (hI : InY N d) (hS : Sy B w p N bx cap C d) {d' : Nat → Nat} {ok : Bool} (hp : pisO d a b = some (d', ok)) :
    Calls Tryz.prog 101 #[.agg #[lessW bx, swapW sf sb], .int .i64 x, .int .i64 y] w (PiY B w p N bx cap C d' ok) := by
  subst hx hy
  have hN := E.hN
  have EE := Lib.hid E
  have hF := FY.new (w := w) (lv := lessW bx) (sv := swapW sf sb) (t := 99)
  have hK := (Kept.refl w).alloc (.cells #[lessW bx, swapW sf sb] 99)
  have hne : w.heap.size ≠ p := by have := hS.row.lt; omega
  have hS1 := hS.later hK
  have hT1 := Lib.hid (show Turn p w (w.alloc (.cells #[lessW bx, swapW sf sb] 99)) from Turn.kept hK)
  have WY := Lib.hid (pisO_ways hp)
  have II := Lib.hid hI
  have HF := Lib.hid hF
  clear hS hK E hI hF hp
  have l1 : IntKind.i64.wrap ((a : Int) + 1) = (a : Int) + 1 := IntWalk.i64_in _ (by omega)
  have l2 : IntKind.i64.wrap ((b : Int) - (a : Int)) = ((b - a : Nat) : Int) := by rw [show ((b - a : Nat) : Int) = (b : Int) - (a : Int) by omega]; exact IntWalk.i64_in _ (by omega)
  go_enter Tryz.func101, Tryz.ntmps101
  go_wp2_with fail
  generalize w.alloc (.cells #[lessW bx, swapW sf sb] 99) = w1 at *
  generalize w.heap.size = fb at *
  generalize hL : b - a = L at *
  go_loopw [7, 8] (fun s jj wr => ∃ (i0 : Nat) (d1 : Nat → Nat), s = .int .i64 i0 ∧ ((jj = .int .i64 0 ∧ i0 = a + 1 ∧ d1 = d) ∨ (jj = .int .i64 1 ∧ i0 + 1 = b ∧ a + 1 < i0 ∧ d1 = d' ∧ lsD d1 i0 (i0 - 1) = false ∧ ok = true)) ∧ Hid (InY N d1) ∧ Sy B wr p N bx cap C d1 ∧ Turn p w1 wr) (fun _ jj _ => (1 - intOf jj).toNat)
  case atStart => exact ⟨a + 1, d, by go_num, .inl ⟨rfl, rfl, rfl⟩, II, hS1, Turn.refl _ _⟩
  case round =>
    clear hS1
    obtain ⟨i0, d1, rfl, hst, hI1, hO1, hK1⟩ := hrel
    rcases hst with ⟨rfl, e0, e1⟩ | ⟨rfl, ib, ai, e1, e2, e3⟩
    · subst e0
      obtain ⟨I, hIe⟩ : ∃ I, pisU d1 (b - (a + 1)) (a + 1) = I := ⟨_, rfl⟩
      have HI := Lib.hid hIe
      have HI0 := Lib.hid hIe
      have HD := Lib.hid e1
      clear hIe e1
      go_wp2
      go_loopw [7] (fun s wr => ∃ i : Nat, a + 1 ≤ i ∧ i ≤ b ∧ s = .int .i64 i ∧ Hid (pisU d1 (b - i) i = I) ∧ Sy B wr p N bx cap C d1 ∧ Turn p w1 wr) (fun s _ => (b - intOf s).toNat)
      case atStart => exact ⟨a + 1, Nat.le_refl _, by omega, by go_num, HI, hO1, hK1⟩
      case round =>
        clear hO1 hK1 HI
        obtain ⟨i, ia, ib, rfl, hU, hO2, hK2⟩ := hrel
        have F := HF.out.turn hK2 hne
        have c0 := F.c0
        have e7 : (1 : Int) ≤ (i : Int) := by omega
        by_cases hlt : i < b
        · have LS := Lib.hid (EE.out.less hI1.out hO2 i (i - 1) (i : Int) ((i : Int) - 1) rfl (by omega) (by omega) (by omega))
          cases hl : lsD d1 i (i - 1)
          · have HU3 := Lib.hid (show pisU d1 (b - (i + 1)) (i + 1) = I by have := hU.out; rw [show b - i = b - (i + 1) + 1 by omega, pisU_go hl] at this; exact this)
            rw [hl] at LS
            clear hU hl
            go_wp2_with fail
            refine LS.out.mono ?_
            rintro e w2 ⟨rfl, hk2⟩
            have hO3 := hO2.later hk2
            have hK3 := hK2.trans (Turn.kept hk2)
            clear hO2 hK2 hk2 F c0 LS
            go_wp2
            go_roundw
            case rel => exact ⟨i + 1, by omega, by omega, by go_num, HU3, hO3, hK3⟩
            case measure => simp [intOf]; omega
          · obtain rfl : i = I := by have := hU.out; rw [show b - i = b - (i + 1) + 1 by omega, pisU_stop hl] at this; exact this
            have ei : ((i : Int) == (b : Int)) = false := by rw [beq_eq_false_iff_ne]; omega
            have en : (i == b) = false := by rw [beq_eq_false_iff_ne]; omega
            have HL := Lib.hid hl
            rw [hl] at LS
            clear hU hl
            go_wp2_with fail
            refine LS.out.mono ?_
            rintro e w2 ⟨rfl, hk2⟩
            have hO3 := hO2.later hk2
            have hK3 := hK2.trans (Turn.kept hk2)
            clear hO2 hK2 hk2 F c0 LS
            rcases WY.out with ⟨q, _⟩ | ⟨_, q2, q3, q4⟩ | ⟨i', q1, q2, q3, q4, q5, q6, q7⟩
            · exfalso; rw [← HD.out, HI0.out] at q; omega
            · have c50 : decide ((L : Int) < 50) = true := by simp; omega
              have hh : Sy B wr p N bx cap C d' → True := fun _ => trivial
              have Q4 := Lib.hid q4
              have RS := Lib.hid (show Sy B w2 p N bx cap C d' from by rw [q3, ← HD.out]; exact hO3)
              have RI := Lib.hid (show InY N d' from by rw [q3, ← HD.out]; exact hI1.out)
              have RT := Lib.hid (hT1.out.trans hK3)
              clear q2 q3 q4 hh hO3 hK3
              go_wp2
              go_ret
              exact ⟨by rw [Q4.out]; rfl, RS.out, RT.out, RI.out⟩
            · rw [← HD.out, HI0.out] at q1
              obtain rfl : i = i' := q1
              have c50 : decide ((L : Int) < 50) = false := by simp; omega
              obtain ⟨D, hD⟩ : ∃ D, i - a = D := ⟨_, rfl⟩
              have l3 : IntKind.i64.wrap ((i : Int) - (a : Int)) = (D : Int) := by rw [show (i : Int) - (a : Int) = (D : Int) by omega]; exact IntWalk.i64_in _ (by omega)
              have l4 : IntKind.i64.wrap ((b : Int) - (i : Int)) = 1 := by rw [show (b : Int) - (i : Int) = 1 by omega]; rfl
              have dg : (2 : Int) ≤ (D : Int) := by omega
              have Q2 := Lib.hid q2
              have Q5 := Lib.hid q5
              have Q6 := Lib.hid q6
              have Q7 := Lib.hid q7
              have c1 := (HF.out.turn hK3 hne).c1
              obtain ⟨w3, hs, hS3, hT3⟩ := EE.out.swap hO3 i (i - 1) (i : Int) ((i : Int) - 1) rfl (by omega) (by omega) (by omega) (by omega)
              have HS := Lib.hid hs
              have HK3 := Lib.hid (hK3.trans hT3)
              have HS3 := Lib.hid hS3
              have HI3 := Lib.hid (hI1.out.sw (i := i) (j := i - 1) (by omega) (by omega))
              have HU := Lib.hid (show pisL (i - 1) (swD d1 i (i - 1)) = d' by rw [HD.out]; exact Q5.out)
              clear hs hO3 hK3 hT3 hS3 q2 q5 q6 q7 hD
              go_wp2
              rw [HS.out, Oper.upon_value]
              clear c1
              go_wp2
              go_loopw [9] (fun s wr => ∃ (j : Nat) (d2 : Nat → Nat), j + 1 ≤ i ∧ s = .int .i64 j ∧ Hid (pisL j d2 = d') ∧ Hid (InY N d2) ∧ Sy B wr p N bx cap C d2 ∧ Turn p w1 wr) (fun s _ => (intOf s).toNat)
              case atStart => exact ⟨i - 1, _, by omega, by congr 1; omega, HU, HI3, HS3.out, HK3.out⟩
              case round =>
                clear HS3 HK3 HU HI3
                obtain ⟨j, d2, ji, rfl, hU2, hI2, hO2, hK2⟩ := hrel
                by_cases hj : 1 ≤ j
                · have F := HF.out.turn hK2 hne
                  have c0 := F.c0
                  have LS2 := Lib.hid (EE.out.less hI2.out hO2 j (j - 1) (j : Int) ((j : Int) - 1) rfl (by omega) (by omega) (by omega))
                  have e8 : (1 : Int) ≤ (j : Int) := by omega
                  cases hl2 : lsD d2 j (j - 1)
                  · have HU3 := Lib.hid (show d2 = d' by
                      have := hU2.out
                      rw [show j = j - 1 + 1 by omega] at this hl2
                      rw [pisL_stop hl2] at this
                      exact this)
                    rw [hl2] at LS2
                    clear hU2 hl2
                    go_wp2_with fail
                    refine LS2.out.mono ?_
                    rintro e w4 ⟨rfl, hk4⟩
                    have hO4 := hO2.later hk4
                    have hK4 := hK2.trans (Turn.kept hk4)
                    clear hO2 hK2 hk4 F c0 LS2
                    go_wp2
                    go_roundw
                    case rel => exact ⟨i, d2, rfl, .inr ⟨rfl, Q2.out, q4, HU3.out, by rw [HU3.out]; exact Q6.out, Q7.out⟩, hI2, hO4, hK4⟩
                    case measure => simp [intOf]
                  · have HU3 := Lib.hid (show pisL (j - 1) (swD d2 j (j - 1)) = d' by
                      have := hU2.out
                      rw [show j = j - 1 + 1 by omega] at this hl2
                      rw [pisL_go hl2] at this
                      rw [show j = j - 1 + 1 by omega]
                      exact this)
                    rw [hl2] at LS2
                    clear hU2 hl2
                    go_wp2_with fail
                    refine LS2.out.mono ?_
                    rintro e w4 ⟨rfl, hk4⟩
                    have hO4 := hO2.later hk4
                    have hK4 := hK2.trans (Turn.kept hk4)
                    have c1 := (HF.out.turn hK4 hne).c1
                    obtain ⟨w5, hs, hS5, hT5⟩ := EE.out.swap hO4 j (j - 1) (j : Int) ((j : Int) - 1) rfl (by omega) (by omega) (by omega) (by omega)
                    have HS5 := Lib.hid hs
                    have HK5 := Lib.hid (hK4.trans hT5)
                    have HI5 := Lib.hid (hI2.out.sw (i := j) (j := j - 1) (by omega) (by omega))
                    clear hs hO2 hO4 hK2 hK4 hT5 hk4 F c0 LS2 hI2
                    go_wp2
                    rw [HS5.out, Oper.upon_value]
                    go_wp2
                    go_roundw
                    case rel => exact ⟨j - 1, swD d2 j (j - 1), by omega, by congr 1; omega, HU3, HI5, hS5, HK5.out⟩
                    case measure => simp [intOf]; omega
                · obtain rfl : j = 0 := by omega
                  have HU3 := Lib.hid (show d2 = d' from hU2.out)
                  clear hj hU2
                  go_wp2
                  go_roundw
                  case rel => exact ⟨i, d2, rfl, .inr ⟨rfl, Q2.out, q4, HU3.out, by rw [HU3.out]; exact Q6.out, Q7.out⟩, hI2, hO2, hK2⟩
                  case measure => simp [intOf]
        · obtain rfl : i = b := by omega
          have HU3 : i = I := by have := hU.out; rw [show i - i = 0 by omega] at this; exact this
          have RW := Lib.hid (show d' = d ∧ ok = true from by
            rcases WY.out with ⟨_, q3, q4⟩ | ⟨q1, _⟩ | ⟨i', q1, q2, _⟩
            · exact ⟨q3, q4⟩
            · exfalso; rw [← HD.out, HI0.out] at q1; omega
            · exfalso; rw [← HD.out, HI0.out] at q1; omega)
          have RS := Lib.hid (show Sy B wr p N bx cap C d' from by rw [RW.out.1, ← HD.out]; exact hO2)
          have RI := Lib.hid (show InY N d' from by rw [RW.out.1, ← HD.out]; exact hI1.out)
          have RT := Lib.hid (hT1.out.trans hK2)
          have gb : decide ((i : Int) < (i : Int)) = false := by simp
          have gc : decide (i < i) = false := by simp
          clear HU3 hU hO2 hK2 F c0 hlt
          go_wp2
          go_ret
          exact ⟨by rw [RW.out.2]; rfl, RS.out, RT.out, RI.out⟩
    · have RW := Lib.hid (show d1 = d' ∧ ok = true from ⟨e1, e3⟩)
      have E2 := Lib.hid e2
      have IB := Lib.hid ib
      have AI := Lib.hid ai
      clear e1 e2 e3 ib ai
      go_wp2
      go_loopw [7] (fun s wr => ∃ i : Nat, i0 ≤ i ∧ i ≤ b ∧ s = .int .i64 i ∧ Sy B wr p N bx cap C d1 ∧ Turn p w1 wr) (fun s _ => (b - intOf s).toNat)
      case atStart => exact ⟨i0, Nat.le_refl _, by have := IB.out; omega, rfl, hO1, hK1⟩
      case round =>
        clear hO1 hK1
        obtain ⟨i, ia, ib, rfl, hO2, hK2⟩ := hrel
        by_cases hlt : i < b
        · obtain rfl : i = i0 := by have := IB.out; omega
          have F := HF.out.turn hK2 hne
          have c0 := F.c0
          have e7 : (1 : Int) ≤ (i : Int) := by have := AI.out; omega
          have LS := Lib.hid (EE.out.less hI1.out hO2 i (i - 1) (i : Int) ((i : Int) - 1) rfl (by omega) (by omega) (by omega))
          rw [E2.out] at LS
          go_wp2_with fail
          refine LS.out.mono ?_
          rintro e w2 ⟨rfl, hk2⟩
          have hO3 := hO2.later hk2
          have hK3 := hK2.trans (Turn.kept hk2)
          clear hO2 hK2 hk2 F c0 LS
          go_wp2
          go_roundw
          case rel => exact ⟨i + 1, by omega, by omega, by go_num, hO3, hK3⟩
          case measure => simp [intOf]; omega
        · obtain rfl : i = b := by omega
          have RS := Lib.hid (show Sy B wr p N bx cap C d' from by rw [← RW.out.1]; exact hO2)
          have RI := Lib.hid (show InY N d' from by rw [← RW.out.1]; exact hI1.out)
          have RT := Lib.hid (hT1.out.trans hK2)
          have gb : decide ((i : Int) < (i : Int)) = false := by simp
          have gc : decide (i < i) = false := by simp
          clear hO2 hK2 hlt
          go_wp2
          go_ret
          exact ⟨by rw [RW.out.2]; rfl, RS.out, RT.out, RI.out⟩
end
end Go.Proofs.YtbaahnafmfjpaaaGreatDoor
