/-
  What the library's partition_func does to the row of entries. No condition but those that each theorem names.
-/
import Derived.Test.YtbaahnafmfjpaaaGreatDoorYWalkE
import Derived.Deep.DeepCutAuto
import Derived.Deep.CutBlock
namespace Go.Proofs.YtbaahnafmfjpaaaGreatDoor
open Go.RowKit
set_option linter.unusedVariables false

theorem scU_end {d : Nat → Nat} {a j i n : Nat} (h : j < i) : scU d a j n i = i := by
  cases n with
  | zero => rfl
  | succ n => rw [scU, ble_no (by omega)]; rfl
theorem scU_stop {d : Nat → Nat} {a j i n : Nat} (h : lsD d i a = false) : scU d a j n i = i := by
  cases n with
  | zero => rfl
  | succ n => rw [scU, h, Bool.and_false]; rfl
theorem scU_go {d : Nat → Nat} {a j i n : Nat} (h : i ≤ j) (hl : lsD d i a = true) : scU d a j (n + 1) i = scU d a j n (i + 1) := by
  rw [scU, hl, (ble_iff _ _).2 h]; rfl
theorem scD_end {d : Nat → Nat} {a j i : Nat} (h : j < i) : scD d a i j = j := by
  cases j with
  | zero => rfl
  | succ j => rw [scD, ble_no (by omega)]; rfl
theorem scD_stop {d : Nat → Nat} {a j i : Nat} (h : lsD d j a = true) : scD d a i j = j := by
  cases j with
  | zero => rfl
  | succ j => rw [scD, h]; simp
theorem scD_go {d : Nat → Nat} {a j i : Nat} (h : i ≤ j + 1) (hl : lsD d (j + 1) a = false) : scD d a i (j + 1) = scD d a i j := by
  rw [scD, hl, (ble_iff _ _).2 h]; rfl
theorem scU_bd {d : Nat → Nat} {a j : Nat} : ∀ n i, i ≤ scU d a j n i ∧ scU d a j n i ≤ i + n
  | 0, i => ⟨Nat.le_refl _, Nat.le_refl _⟩
  | n + 1, i => by
    have h := scU_bd (d := d) (a := a) (j := j) n (i + 1)
    rw [scU]
    cases Nat.ble i j && lsD d i a
    · show i ≤ i ∧ i ≤ _; omega
    · show i ≤ scU d a j n (i + 1) ∧ scU d a j n (i + 1) ≤ _; omega
theorem scD_bd {d : Nat → Nat} {a i : Nat} : ∀ j, scD d a i j ≤ j
  | 0 => Nat.le_refl _
  | j + 1 => by
    have h := scD_bd (d := d) (a := a) (i := i) j
    rw [scD]
    cases Nat.ble i (j + 1) && !(lsD d (j + 1) a)
    · exact Nat.le_refl _
    · show scD d a i j ≤ _; omega
/-! The ways that it goes. -/
theorem parL_ways {d dF : Nat → Nat} {a n i0 j0 m : Nat} (h : parL a n d i0 j0 = some (dF, m)) : ∃ k I J, n = k + 1 ∧ scU d a j0 (j0 + 1 - i0) i0 = I ∧ scD d a I j0 = J ∧
    ((J < I ∧ dF = d ∧ m = J) ∨ (I < J ∧ parL a k (swD d I J) (I + 1) (J - 1) = some (dF, m))) := by
  cases n with
  | zero => cases h
  | succ k =>
    rw [parL] at h
    refine ⟨k, _, _, rfl, rfl, rfl, ?_⟩
    generalize scU d a j0 (j0 + 1 - i0) i0 = I at *
    generalize scD d a I j0 = J at *
    by_cases c : J < I
    · rw [(blt_iff _ _).2 c] at h
      obtain ⟨rfl, rfl⟩ : d = dF ∧ J = m := by simpa using h
      exact .inl ⟨c, rfl, rfl⟩
    · rw [blt_no c] at h
      by_cases e : I = J
      · rw [(beq_iff _ _).2 e] at h; cases h
      · rw [beq_no e] at h
        exact .inr ⟨by omega, h⟩
theorem parO_ways {d d' : Nat → Nat} {a b pv mid : Nat} {al : Bool} (h : parO d a b pv = some (d', mid, al)) : ∃ I J, scU (swD d a pv) a (b - 1) (b - 1 - a) (a + 1) = I ∧ scD (swD d a pv) a I (b - 1) = J ∧
    ((J < I ∧ a < J ∧ d' = swD (swD d a pv) J a ∧ mid = J ∧ al = true) ∨ (I < J ∧ ∃ d2, parL a 61 (swD (swD d a pv) I J) (I + 1) (J - 1) = some (d2, mid) ∧ a < mid ∧ d' = swD d2 mid a ∧ al = false)) := by
  unfold parO at h
  refine ⟨_, _, rfl, rfl, ?_⟩
  by_cases z : a = pv
  · rw [(beq_iff _ _).2 z] at h; cases h
  · rw [beq_no z] at h
    simp only [cond_false] at h
    generalize swD d a pv = d1 at *
    generalize scU d1 a (b - 1) (b - 1 - a) (a + 1) = I at *
    generalize scD d1 a I (b - 1) = J at *
    by_cases c : J < I
    · rw [(blt_iff _ _).2 c] at h
      by_cases q : J ≤ a
      · rw [(ble_iff _ _).2 q] at h; cases h
      · rw [ble_no q] at h
        obtain ⟨rfl, rfl, rfl⟩ : swD d1 J a = d' ∧ J = mid ∧ true = al := by simpa using h
        exact .inl ⟨c, by omega, rfl, rfl, rfl⟩
    · rw [blt_no c] at h
      by_cases e : I = J
      · rw [(beq_iff _ _).2 e] at h; cases h
      · rw [beq_no e] at h
        simp only [cond_false] at h
        cases hl : parL a 61 (swD d1 I J) (I + 1) (J - 1) with
        | none => rw [hl] at h; cases h
        | some r =>
          obtain ⟨d2, j2⟩ := r
          rw [hl] at h
          simp only [] at h
          by_cases q : j2 ≤ a
          · rw [(ble_iff _ _).2 q] at h; cases h
          · rw [ble_no q] at h
            obtain ⟨rfl, rfl, rfl⟩ : swD d2 j2 a = d' ∧ j2 = mid ∧ false = al := by simpa using h
            exact .inr ⟨by omega, d2, rfl, by omega, rfl, rfl⟩
section
variable {B w : World} {p N bx cap : Nat} {C : En} {sf : Nat} {sb : Array Value} {d : Nat → Nat}
/-- What it returns. -/
def PtY (B w : World) (p N bx cap : Nat) (C : En) (d : Nat → Nat) (mid : Nat) (al : Bool) (e : Ending) (w' : World) : Prop := e = .returned (.tuple #[.int .i64 (mid : Int), .bool al]) ∧ Sy B w' p N bx cap C d ∧ Turn p w w' ∧ InY N d
set_option maxRecDepth 100000 in
set_option maxHeartbeats 4000000 in
theorem parY_any (E : EnvY B p N bx cap C sf sb) (a b pv : Nat) (x y z : Int) (hx : x = a) (hy : y = b) (hz : z = pv) (h1 : 13 + a ≤ b) (h2 : b ≤ N) (hv : pv < N) (hI : InY N d) (hS : Sy B w p N bx cap C d) {d' : Nat → Nat} {mid : Nat} {al : Bool} (hp : parO d a b pv = some (d', mid, al)) :
    Calls Tryz.prog 103 #[.agg #[lessW bx, swapW sf sb], .int .i64 x, .int .i64 y, .int .i64 z] w (PtY B w p N bx cap C d' mid al) := by
  subst hx hy hz
  have hN := E.hN
  have EE := Lib.hid E
  have hF := FY.new (w := w) (lv := lessW bx) (sv := swapW sf sb) (t := 99)
  have hK := (Kept.refl w).alloc (.cells #[lessW bx, swapW sf sb] 99)
  have hne : w.heap.size ≠ p := by have := hS.row.lt; omega
  have hS1 := hS.later hK
  have hT1 := Lib.hid (show Turn p w (w.alloc (.cells #[lessW bx, swapW sf sb] 99)) from Turn.kept hK)
  have HF := Lib.hid hF
  have avn : a ≠ pv := by
    intro e
    unfold parO at hp
    rw [(beq_iff _ _).2 e] at hp
    cases hp
  obtain ⟨w0, hs, hS0, hT0⟩ := E.swap hS1 a pv (a : Int) (pv : Int) rfl rfl (by omega) hv avn
  have HS0 := Lib.hid hs
  have HI0 := Lib.hid (hI.sw (i := a) (j := pv) (by omega) hv)
  have c1 := hF.c1
  obtain ⟨I, J1, hI1, hJ1, hways⟩ := parO_ways hp
  obtain ⟨J, hJ⟩ : ∃ J, b - 1 = J := ⟨_, rfl⟩
  obtain ⟨d1, hd1⟩ : ∃ d1, swD d a pv = d1 := ⟨_, rfl⟩
  rw [hJ] at hI1 hJ1
  rw [hd1] at hI1 hJ1 hways hS0 HI0
  have I1 := scU_bd (d := d1) (a := a) (j := J) (J - a) (a + 1)
  have J2 := scD_bd (d := d1) (a := a) (i := I) J
  rw [hI1] at I1
  rw [hJ1] at J2
  rw [show J - a = J + 1 - (a + 1) by omega] at hI1
  have HU0 := Lib.hid hI1
  have HD0 := Lib.hid hJ1
  have WY := Lib.hid hways
  have l1 : IntKind.i64.wrap ((a : Int) + 1) = (a : Int) + 1 := IntWalk.i64_in _ (by omega)
  have l2 : IntKind.i64.wrap ((b : Int) - 1) = (J : Int) := by rw [show (J : Int) = (b : Int) - 1 by omega]; exact IntWalk.i64_in _ (by omega)
  have JN : J + 1 ≤ N := by omega
  have aJ : a + 1 ≤ J := by omega
  clear hS hK E hI hF hp hs hS1 hI1 hJ1 hways hd1 hJ
  go_enter Tryz.func103, Tryz.ntmps103
  go_wp2_with fail
  generalize w.alloc (.cells #[lessW bx, swapW sf sb] 99) = w1 at *
  generalize w.heap.size = fb at *
  rw [HS0.out, Oper.upon_value]
  clear c1
  go_upto_block 0 with fail
  go_cut [10] (fun s wx => s = .int .i64 I ∧ Sy B wx p N bx cap C d1 ∧ Turn p w1 wx)
  case first =>
    go_wp2_with fail
    go_loopw [10] (fun s wr => ∃ i : Nat, (a + 1) ≤ i ∧ (i ≤ J + 1 ∨ i = (a + 1)) ∧ s = .int .i64 i ∧ Hid (scU d1 a J (J + 1 - i) i = I) ∧ Sy B wr p N bx cap C d1 ∧ Turn p w1 wr) (fun s _ => (J + 1 - intOf s).toNat)
    case atStart => exact ⟨(a + 1), Nat.le_refl _, .inr rfl, by go_num, HU0, hS0, hT0⟩
    case round =>
      clear hS0 hT0
      obtain ⟨i, ia, ij, rfl, hU, hO2, hK2⟩ := hrel
      by_cases hle : i ≤ J
      · have F := HF.out.turn hK2 hne
        have c0 := F.c0
        have LS := Lib.hid (EE.out.less HI0.out hO2 i a (i : Int) (a : Int) rfl rfl (by omega) (by omega))
        cases hl : lsD d1 i a
        · have HII := Lib.hid (show i = I by have := hU.out; rw [scU_stop hl] at this; exact this)
          rw [hl] at LS
          clear hU hl
          go_wp2_with fail
          refine LS.out.mono ?_
          rintro e wz ⟨rfl, hkz⟩
          have hO3 := hO2.later hkz
          have hK3 := hK2.trans (Turn.kept hkz)
          clear hO2 hK2 hkz F c0 LS
          go_wp2
          go_meet
          exact ⟨by rw [HII.out], hO3, hK3⟩
        · have HU3 := Lib.hid (show scU d1 a J (J + 1 - (i + 1)) (i + 1) = I by have := hU.out; rw [show J + 1 - i = J + 1 - (i + 1) + 1 by omega, scU_go hle hl] at this; exact this)
          rw [hl] at LS
          clear hU hl
          go_wp2_with fail
          refine LS.out.mono ?_
          rintro e wz ⟨rfl, hkz⟩
          have hO3 := hO2.later hkz
          have hK3 := hK2.trans (Turn.kept hkz)
          clear hO2 hK2 hkz F c0 LS
          go_wp2
          go_roundw
          case rel => exact ⟨i + 1, by omega, .inl (by omega), by go_num, HU3, hO3, hK3⟩
          case measure => simp [intOf]; omega
      · have HII := Lib.hid (show i = I by have := hU.out; rw [scU_end (by omega)] at this; exact this)
        have gb : decide ((i : Int) ≤ (J : Int)) = false := by simp; omega
        have gc : decide (i ≤ J) = false := by simpa using hle
        clear hU
        go_wp2
        go_meet
        exact ⟨by rw [HII.out], hO2, hK2⟩
  case rest =>
    clear hS0 hT0
    obtain ⟨rfl, hSa, hTa⟩ := hcut
    go_upto_block 2 with fail
    go_cut [11] (fun s wx => s = .int .i64 J1 ∧ Sy B wx p N bx cap C d1 ∧ Turn p w1 wx)
    case first =>
      go_wp2_with fail
      go_loopw [11] (fun s wr => ∃ j : Nat, j ≤ J ∧ s = .int .i64 j ∧ Hid (scD d1 a I j = J1) ∧ Sy B wr p N bx cap C d1 ∧ Turn p w1 wr) (fun s _ => (intOf s).toNat)
      case atStart => exact ⟨J, Nat.le_refl _, rfl, HD0, hSa, hTa⟩
      case round =>
        clear hSa hTa
        obtain ⟨j, jj, rfl, hU, hO2, hK2⟩ := hrel
        by_cases hle : I ≤ j
        · have F := HF.out.turn hK2 hne
          have c0 := F.c0
          have e7 : (1 : Int) ≤ (j : Int) := by omega
          have LS := Lib.hid (EE.out.less HI0.out hO2 j a (j : Int) (a : Int) rfl rfl (by omega) (by omega))
          cases hl : lsD d1 j a
          · have HU3 := Lib.hid (show scD d1 a I (j - 1) = J1 by have := hU.out; rw [show j = j - 1 + 1 by omega] at this hl; rw [scD_go (by omega) hl] at this; exact this)
            rw [hl] at LS
            clear hU hl
            go_wp2_with fail
            refine LS.out.mono ?_
            rintro e wz ⟨rfl, hkz⟩
            have hO3 := hO2.later hkz
            have hK3 := hK2.trans (Turn.kept hkz)
            clear hO2 hK2 hkz F c0 LS
            go_wp2
            go_roundw
            case rel => exact ⟨j - 1, by omega, by congr 1; omega, HU3, hO3, hK3⟩
            case measure => simp [intOf]; omega
          · have HII := Lib.hid (show j = J1 by have := hU.out; rw [scD_stop hl] at this; exact this)
            rw [hl] at LS
            clear hU hl
            go_wp2_with fail
            refine LS.out.mono ?_
            rintro e wz ⟨rfl, hkz⟩
            have hO3 := hO2.later hkz
            have hK3 := hK2.trans (Turn.kept hkz)
            clear hO2 hK2 hkz F c0 LS
            go_wp2
            go_meet
            exact ⟨by rw [HII.out], hO3, hK3⟩
        · have HII := Lib.hid (show j = J1 by have := hU.out; rw [scD_end (by omega)] at this; exact this)
          have gb : decide ((I : Int) ≤ (j : Int)) = false := by simp; omega
          have gc : decide (I ≤ j) = false := by simpa using hle
          clear hU
          go_wp2
          go_meet
          exact ⟨by rw [HII.out], hO2, hK2⟩
    case rest =>
      clear hSa hTa
      obtain ⟨rfl, hSb, hTb⟩ := hcut
      rcases WY.out with ⟨c, aj, e1, e2, e3⟩ | ⟨c, d2, e1, am, e2, e3⟩
      · have c1 := (HF.out.turn hTb hne).c1
        obtain ⟨w3, hs, hS3, hT3⟩ := EE.out.swap hSb J1 a (J1 : Int) (a : Int) rfl rfl (by omega) (by omega) (by omega)
        have HS := Lib.hid hs
        have RS := Lib.hid (show Sy B w3 p N bx cap C d' from by rw [e1]; exact hS3)
        have RT := Lib.hid (hT1.out.trans (hTb.trans hT3))
        have RI := Lib.hid (show InY N d' from by rw [e1]; exact HI0.out.sw (by omega) (by omega))
        have RE := Lib.hid (show mid = J1 ∧ al = true from ⟨e2, e3⟩)
        clear hs hS3 hT3 hSb hTb e1 e2 e3
        go_wp2
        rw [HS.out, Oper.upon_value]
        go_wp2
        exact bodyPost_ret (v := .tuple #[.int .i64 (J1 : Int), .bool true]) (by simp [results, Tryz.results103, go_sem]) rfl ⟨by rw [RE.out.1, RE.out.2], RS.out, RT.out, RI.out⟩
      · have c1 := (HF.out.turn hTb hne).c1
        obtain ⟨w3, hs, hS3, hT3⟩ := EE.out.swap hSb I J1 (I : Int) (J1 : Int) rfl rfl (by omega) (by omega) (by omega)
        have HS := Lib.hid hs
        have HS3 := Lib.hid hS3
        have HT3 := Lib.hid (hTb.trans hT3)
        have HI3 := Lib.hid (HI0.out.sw (i := I) (j := J1) (by omega) (by omega))
        have HP := Lib.hid e1
        have RE := Lib.hid (show d' = swD d2 mid a ∧ al = false from ⟨e2, e3⟩)
        have j7 : (1 : Int) ≤ (J1 : Int) := by omega
        have ng : ¬ J1 < I := by omega
        clear hs hS3 hT3 hSb hTb e1 e2 e3
        go_wp2
        rw [HS.out, Oper.upon_value]
        clear c1
        go_wp2
        go_loopw [10, 11] (fun s t wr => ∃ (n i j : Nat) (d3 : Nat → Nat), s = .int .i64 i ∧ t = .int .i64 j ∧ a + 1 ≤ i ∧ j + 1 ≤ N ∧ i ≤ N + 1 ∧ Hid (parL a n d3 i j = some (d2, mid)) ∧ Hid (InY N d3) ∧ Sy B wr p N bx cap C d3 ∧ Turn p w1 wr) (fun s t _ => (intOf t + 2 - intOf s).toNat)
        case atStart => exact ⟨61, I + 1, J1 - 1, _, by go_num, by congr 1; omega, by omega, by omega, by omega, HP, HI3, HS3.out, HT3.out⟩
        case round =>
          clear HS3 HT3 HI3 HP
          obtain ⟨n, i0, j0, d3, rfl, rfl, ia, jn, iN, hP, hI3, hO1, hK1⟩ := hrel
          obtain ⟨k, I2, J3, hk, hI2, hJ3, hw⟩ := parL_ways hP.out
          have b1 := scU_bd (d := d3) (a := a) (j := j0) (j0 + 1 - i0) i0
          have b2 := scD_bd (d := d3) (a := a) (i := I2) j0
          rw [hI2] at b1
          rw [hJ3] at b2
          have HU1 := Lib.hid hI2
          have HD1 := Lib.hid hJ3
          have HW := Lib.hid hw
          clear hk hI2 hJ3 hw hP ng j7 c WY HU0 HD0 I1 J2
          go_upto_block 6 with fail
          go_cut [10] (fun s wx => s = .int .i64 I2 ∧ Sy B wx p N bx cap C d3 ∧ Turn p w1 wx)
          case first =>
            go_wp2_with fail
            go_loopw [10] (fun s wr => ∃ i : Nat, i0 ≤ i ∧ (i ≤ j0 + 1 ∨ i = i0) ∧ s = .int .i64 i ∧ Hid (scU d3 a j0 (j0 + 1 - i) i = I2) ∧ Sy B wr p N bx cap C d3 ∧ Turn p w1 wr) (fun s _ => (j0 + 1 - intOf s).toNat)
            case atStart => exact ⟨i0, Nat.le_refl _, .inr rfl, rfl, HU1, hO1, hK1⟩
            case round =>
              clear hO1 hK1
              obtain ⟨i, ia, ij, rfl, hU, hO2, hK2⟩ := hrel
              by_cases hle : i ≤ j0
              · have F := HF.out.turn hK2 hne
                have c0 := F.c0
                have LS := Lib.hid (EE.out.less hI3.out hO2 i a (i : Int) (a : Int) rfl rfl (by omega) (by omega))
                cases hl : lsD d3 i a
                · have HII := Lib.hid (show i = I2 by have := hU.out; rw [scU_stop hl] at this; exact this)
                  rw [hl] at LS
                  clear hU hl
                  go_wp2_with fail
                  refine LS.out.mono ?_
                  rintro e wz ⟨rfl, hkz⟩
                  have hO3 := hO2.later hkz
                  have hK3 := hK2.trans (Turn.kept hkz)
                  clear hO2 hK2 hkz F c0 LS
                  go_wp2
                  go_meet
                  exact ⟨by rw [HII.out], hO3, hK3⟩
                · have HU3 := Lib.hid (show scU d3 a j0 (j0 + 1 - (i + 1)) (i + 1) = I2 by have := hU.out; rw [show j0 + 1 - i = j0 + 1 - (i + 1) + 1 by omega, scU_go hle hl] at this; exact this)
                  rw [hl] at LS
                  clear hU hl
                  go_wp2_with fail
                  refine LS.out.mono ?_
                  rintro e wz ⟨rfl, hkz⟩
                  have hO3 := hO2.later hkz
                  have hK3 := hK2.trans (Turn.kept hkz)
                  clear hO2 hK2 hkz F c0 LS
                  go_wp2
                  go_roundw
                  case rel => exact ⟨i + 1, by omega, .inl (by omega), by go_num, HU3, hO3, hK3⟩
                  case measure => simp [intOf]; omega
              · have HII := Lib.hid (show i = I2 by have := hU.out; rw [scU_end (by omega)] at this; exact this)
                have gb : decide ((i : Int) ≤ (j0 : Int)) = false := by simp; omega
                have gc : decide (i ≤ j0) = false := by simpa using hle
                clear hU
                go_wp2
                go_meet
                exact ⟨by rw [HII.out], hO2, hK2⟩
          case rest =>
            clear hO1 hK1
            obtain ⟨rfl, hSa, hTa⟩ := hcut
            go_upto_block 8 with fail
            go_cut [11] (fun s wx => s = .int .i64 J3 ∧ Sy B wx p N bx cap C d3 ∧ Turn p w1 wx)
            case first =>
              go_wp2_with fail
              go_loopw [11] (fun s wr => ∃ j : Nat, j ≤ j0 ∧ s = .int .i64 j ∧ Hid (scD d3 a I2 j = J3) ∧ Sy B wr p N bx cap C d3 ∧ Turn p w1 wr) (fun s _ => (intOf s).toNat)
              case atStart => exact ⟨j0, Nat.le_refl _, rfl, HD1, hSa, hTa⟩
              case round =>
                clear hSa hTa
                obtain ⟨j, jj, rfl, hU, hO2, hK2⟩ := hrel
                by_cases hle : I2 ≤ j
                · have F := HF.out.turn hK2 hne
                  have c0 := F.c0
                  have e7 : (1 : Int) ≤ (j : Int) := by omega
                  have LS := Lib.hid (EE.out.less hI3.out hO2 j a (j : Int) (a : Int) rfl rfl (by omega) (by omega))
                  cases hl : lsD d3 j a
                  · have HU3 := Lib.hid (show scD d3 a I2 (j - 1) = J3 by have := hU.out; rw [show j = j - 1 + 1 by omega] at this hl; rw [scD_go (by omega) hl] at this; exact this)
                    rw [hl] at LS
                    clear hU hl
                    go_wp2_with fail
                    refine LS.out.mono ?_
                    rintro e wz ⟨rfl, hkz⟩
                    have hO3 := hO2.later hkz
                    have hK3 := hK2.trans (Turn.kept hkz)
                    clear hO2 hK2 hkz F c0 LS
                    go_wp2
                    go_roundw
                    case rel => exact ⟨j - 1, by omega, by congr 1; omega, HU3, hO3, hK3⟩
                    case measure => simp [intOf]; omega
                  · have HII := Lib.hid (show j = J3 by have := hU.out; rw [scD_stop hl] at this; exact this)
                    rw [hl] at LS
                    clear hU hl
                    go_wp2_with fail
                    refine LS.out.mono ?_
                    rintro e wz ⟨rfl, hkz⟩
                    have hO3 := hO2.later hkz
                    have hK3 := hK2.trans (Turn.kept hkz)
                    clear hO2 hK2 hkz F c0 LS
                    go_wp2
                    go_meet
                    exact ⟨by rw [HII.out], hO3, hK3⟩
                · have HII := Lib.hid (show j = J3 by have := hU.out; rw [scD_end (by omega)] at this; exact this)
                  have gb : decide ((I2 : Int) ≤ (j : Int)) = false := by simp; omega
                  have gc : decide (I2 ≤ j) = false := by simpa using hle
                  clear hU
                  go_wp2
                  go_meet
                  exact ⟨by rw [HII.out], hO2, hK2⟩
            case rest =>
              clear hSa hTa
              obtain ⟨rfl, hSb, hTb⟩ := hcut
              rcases HW.out with ⟨c, e1, e2⟩ | ⟨c, e1⟩
              · have c1 := (HF.out.turn hTb hne).c1
                have am3 : a < J3 := by omega
                obtain ⟨w3, hs, hS3, hT3⟩ := EE.out.swap hSb J3 a (J3 : Int) (a : Int) rfl rfl (by omega) (by omega) (by omega)
                have HS9 := Lib.hid hs
                have RS := Lib.hid (show Sy B w3 p N bx cap C d' from by rw [RE.out.1, e1, e2]; exact hS3)
                have RT := Lib.hid (hT1.out.trans (hTb.trans hT3))
                have RI := Lib.hid (show InY N d' from by rw [RE.out.1, e1, e2]; exact hI3.out.sw (by omega) (by omega))
                have RM := Lib.hid (show mid = J3 ∧ al = false from ⟨e2, RE.out.2⟩)
                clear hs hS3 hT3 hSb hTb e1 e2
                go_wp2
                rw [HS9.out, Oper.upon_value]
                go_wp2
                exact bodyPost_ret (v := .tuple #[.int .i64 (J3 : Int), .bool false]) (by simp [results, Tryz.results103, go_sem]) rfl ⟨by rw [RM.out.1, RM.out.2], RS.out, RT.out, RI.out⟩
              · have c1 := (HF.out.turn hTb hne).c1
                obtain ⟨w3, hs, hS3, hT3⟩ := EE.out.swap hSb I2 J3 (I2 : Int) (J3 : Int) rfl rfl (by omega) (by omega) (by omega)
                have HS9 := Lib.hid hs
                have HT9 := Lib.hid (hTb.trans hT3)
                have HI9 := Lib.hid (hI3.out.sw (i := I2) (j := J3) (by omega) (by omega))
                have HP9 := Lib.hid e1
                have j7 : (1 : Int) ≤ (J3 : Int) := by omega
                have ng : ¬ J3 < I2 := by omega
                clear hs hT3 hSb hTb e1
                go_wp2
                rw [HS9.out, Oper.upon_value]
                clear c1
                go_wp2
                go_roundw
                case rel => exact ⟨k, I2 + 1, J3 - 1, swD d3 I2 J3, by go_num, by congr 1; omega, by omega, by omega, by omega, HP9, HI9, hS3, HT9.out⟩
                case measure => simp [intOf]; omega
end
end Go.Proofs.YtbaahnafmfjpaaaGreatDoor
