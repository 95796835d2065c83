/-
  What the library's insertionSortCmpFunc does to a row of the call's own, by an order that the caller hands in. No condition but those that each theorem names.
-/
import Derived.Test.YtdgiljndoeldcaaTWalkA
import Derived.Test.YtdgiljndoeldcaaTMathB
namespace Go.Proofs.Ytdgiljndoeldcaa
open Go.RowKit

/-- The order that is handed in: the function's value, over the box that it has captured. -/
abbrev ordF (bx : Nat) : Value := .func (.func 76) #[] #[.pointer (some ⟨bx, 0, none⟩)]
/-- What it says of two places: the greater key first; it turns nothing. -/
def CmpOk (B : World) (N bx : Nat) (k : Int → Int) : Prop :=
  ∀ (x y : Int) (W : World), 0 ≤ x → x < N → 0 ≤ y → y < N → Kept B W →
    Calls Try.prog 76 #[.int .i64 x, .int .i64 y, .pointer (some ⟨bx, 0, none⟩)] W fun e w' => e = .returned (.int .i64 (cmpV (k y) (k x))) ∧ Drew W w'
/-- A row in order from a to b, of what was there. -/
def SortedPost (B : World) (p N : Nat) (k : Int → Int) (d : Nat → Int) (a b : Nat) (e : Ending) (w' : World) : Prop :=
  ∃ d', e = .returned (.tuple #[]) ∧ Own w' p (tab N d') ∧ Kept B w' ∧ SegPerm a b d d' ∧ Sorted k d' a b

set_option maxRecDepth 100000 in
set_option maxHeartbeats 4000000 in
theorem insertion_any (p N bx a b : Nat) (k : Int → Int) (d : Nat → Int) (B w : World) (hN : N ≤ 1000) (h1 : a ≤ b) (h2 : b ≤ N) (hI : InR N d) (hU : Outer k d a b (a + 1)) (hC : CmpOk B N bx k) (hO : Own w p (tab N d)) (hp : B.heap.size ≤ p) (hK : Kept B w) :
    Calls Try.prog 101 #[.slice (some ⟨p, 0, none⟩) N N, .int .i64 (a : Int), .int .i64 (b : Int), ordF bx] w (SortedPost B p N k d a b) := by
  go_enter Try.func101, Try.ntmps101
  go_wp2
  go_loopw [8] (fun s wr => ∃ (i : Nat) (d1 : Nat → Int), a + 1 ≤ i ∧ i ≤ b + 1 ∧ s = .int .i64 i ∧ Outer k d1 a b i ∧ SegPerm a b d d1 ∧ Own wr p (tab N d1) ∧ Kept B wr) (fun s _ => (b + 1 - intOf s).toNat)
  case atStart => exact ⟨a + 1, d, by omega, by omega, by go_num, hU, SegPerm.refl a b d, hO, hK⟩
  case round =>
    obtain ⟨i, d1, i0, i1, rfl, hU1, hP1, hO1, hK1⟩ := hrel
    by_cases hlt : i < b
    · have hI1 := hP1.inR h2 hI
      go_wp2
      go_loopw [9] (fun s wr => ∃ (j : Nat) (d2 : Nat → Int), a ≤ j ∧ j ≤ i ∧ s = .int .i64 j ∧ Ins k d2 a i j ∧ SegPerm a (i + 1) d1 d2 ∧ Own wr p (tab N d2) ∧ Kept B wr) (fun s _ => (intOf s).toNat)
      case atStart => exact ⟨i, d1, by omega, by omega, rfl, Ins.start hU1.1 hU1.cross hlt, SegPerm.refl _ _ _, hO1, hK1⟩
      case round =>
        clear hO1 hK1
        obtain ⟨j, d2, j0, j1, rfl, hI2, hP2, hO2, hK2⟩ := hrel
        by_cases hj : a < j
        · have hR2 := hP2.inR (show i + 1 ≤ N by omega) hI1
          have rx := hR2 j (by omega)
          have ry := hR2 (j - 1) (by omega)
          have hc := hO2.cell j (by rw [tab_len]; omega)
          have hd := hO2.cell (j - 1) (by rw [tab_len]; omega)
          have hf := hO2.free j (by rw [tab_len]; omega)
          have hg := hO2.free (j - 1) (by rw [tab_len]; omega)
          rw [tab_get] at hc hd
          have hOs := fun (m : Nat) => (hO2.drewN m).swap (i := j) (j := j - 1) (by omega) (by omega)
          have HO := Lib.hid hOs
          have ST := Lib.hid (hI2.step hj j1)
          have DN := Lib.hid (fun h => hI2.done j0 j1 (.inr h))
          have CV := Lib.hid (cmpV_neg (k (d2 (j - 1))) (k (d2 j)))
          have CO := Lib.hid (fun (m : Nat) => hC (d2 j) (d2 (j - 1)) _ rx.1 rx.2 ry.1 ry.2 (hK2.drewN m))
          generalize hx : d2 j = x at *
          generalize hy : d2 (j - 1) = y at *
          clear hOs hI2 hR2
          have e1 : (a : Int) < (j : Int) := by omega
          have e2 : (j : Int) < (N : Int) := by omega
          have e3 : (0 : Int) ≤ (j : Int) - 1 := by omega
          have e4 : (j : Int) - 1 < (N : Int) := by omega
          have e5 : ((j : Int) - 1).toNat = j - 1 := by omega
          have e6 : IntKind.i64.wrap ((j : Int) - 1) = (j : Int) - 1 := IntWalk.i64_in _ (by omega)
          have e7 : (1 : Int) ≤ (j : Int) := by omega
          go_wp2_with fail
          go_quiet (first | (go_at_call 76; exact quiet_drew (CO.out _)))
          by_cases hl : k y < k x
          · have cb : decide (cmpV (k y) (k x) < 0) = true := by rw [decide_eq_true_iff, CV.out]; exact hl
            rw [cb]
            clear cb e6
            have ne : j ≠ j - 1 := by omega
            go_wp2
            go_region
            all_goals go_wp2
            all_goals
              go_roundw
              case rel => exact ⟨j - 1, sw d2 j (j - 1), by omega, by omega, by congr 1; omega, ST.out hl, hP2.trans (SegPerm.swap d2 (by omega) (by omega)), HO.out _, ((hK2.drewN _).setAt hp _).setAt hp _⟩
              case measure => simp [intOf]; omega
          · have cb : decide (cmpV (k y) (k x) < 0) = false := by rw [decide_eq_false_iff_not, CV.out]; exact hl
            rw [cb]
            clear cb e6
            go_wp2
            go_roundw
            case rel => exact ⟨i + 1, d2, by omega, by omega, by go_num, hU1.step hP2 (DN.out (Int.not_lt.1 hl)), hP1.trans (hP2.mono (Nat.le_refl _) (by omega)), hO2.drewN _, hK2.drewN _⟩
            case measure => simp [intOf]; omega
        · obtain rfl : j = a := by omega
          have DN := Lib.hid (hI2.done (Nat.le_refl _) j1 (.inl rfl))
          have gb : decide ((j : Int) < (j : Int)) = false := by simp
          have gc : decide (j < j) = false := by simp
          clear hj hI2
          go_wp2_with fail
          go_quiet (fail)
          go_wp2
          go_roundw
          case rel => exact ⟨i + 1, d2, by omega, by omega, by go_num, hU1.step hP2 DN.out, hP1.trans (hP2.mono (Nat.le_refl _) (by omega)), hO2.drewN _, hK2.drewN _⟩
          case measure => simp [intOf]; omega
    · have hn : decide (i < b) = false := by simpa using hlt
      go_wp2
      go_end0
      exact ⟨d1, rfl, hO1, hK1, hP1, fun p q a1 a2 a3 => hU1.1 p q a1 a2 (by omega)⟩

end Go.Proofs.Ytdgiljndoeldcaa
