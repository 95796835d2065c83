/-
  What the library's swapRangeCmpFunc and rotateCmpFunc do to a row of the call's own. No condition but those that each theorem names.
-/
import Derived.Test.YtdgiljndoeldcaaGBase
namespace Go.Proofs.Ytdgiljndoeldcaa
open Go.RowKit Go.Sort
set_option linter.unusedVariables false
variable {C : Int → Mv} {cap : Nat}

/-- What is so behind a call that writes into the row alone. -/
def IWrote (C : Int → Mv) (B : World) (p N : Nat) (d : Nat → Int) (e : Ending) (w' : World) : Prop := e = .returned (.tuple #[]) ∧ IOw C w' p N d ∧ Kept B w'

set_option maxRecDepth 100000 in
set_option maxHeartbeats 2000000 in
theorem iswapRange_any (p N a b n : Nat) (d : Nat → Int) (F : Value) (B w : World) (hN : N ≤ 1000) (h1 : a + n ≤ b) (h2 : b + n ≤ N) (hO : IOw C w p N d) (hp : B.heap.size ≤ p) (hK : Kept B w) :
    Calls Try.prog 106 #[.slice (some ⟨p, 0, none⟩) N cap, .int .i64 (a : Int), .int .i64 (b : Int), .int .i64 (n : Int), F] w (IWrote C B p N (swR d a b n)) := by
  go_enter Try.func106, Try.ntmps106
  go_wp2
  go_loopw [10] (fun i wr => ∃ k : Nat, k ≤ n ∧ i = .int .i64 k ∧ IOw C wr p N (swR d a b k) ∧ Kept B wr) (fun i _ => (n - intOf i).toNat)
  case atStart => exact ⟨0, by omega, rfl, by rw [swR_zero]; exact hO, hK⟩
  case round =>
    obtain ⟨k, hk, rfl, hOr, hKr⟩ := hrel
    by_cases hlt : k < n
    · have hOs := hOr.swap (i := a + k) (j := b + k) (by omega) (by omega) (by omega)
      rw [swR_succ d a b k n h1 hlt] at hOs
      have hc := hOr.c0 (a + k) (by omega)
      have hc' := hOr.c1 (a + k) (by omega)
      have hd := hOr.c0 (b + k) (by omega)
      have hd' := hOr.c1 (b + k) (by omega)
      have hf := hOr.f0 (a + k) (by omega)
      have hf' := hOr.f1 (a + k) (by omega)
      have hg := hOr.f0 (b + k) (by omega)
      have hg' := hOr.f1 (b + k) (by omega)
      generalize hx : C (swR d a b k (a + k)) = x at *
      generalize hy : C (swR d a b k (b + k)) = y at *
      have HO := Lib.hid hOs
      clear hOs hOr hx hy
      have i1 : (a : Int) + (k : Int) < (N : Int) := by omega
      have i2 : (b : Int) + (k : Int) < (N : Int) := by omega
      have i3 : (0 : Int) ≤ (a : Int) + (k : Int) := by omega
      have i4 : (0 : Int) ≤ (b : Int) + (k : Int) := by omega
      have t1 : ((a : Int) + (k : Int)).toNat = a + k := by omega
      have t2 : ((b : Int) + (k : Int)).toNat = b + k := by omega
      have ne : a + k ≠ b + k := by omega
      go_wp2
      go_region
      all_goals go_wp2
      all_goals
        go_roundw
        case rel => exact ⟨k + 1, by omega, by go_num, HO.out.drew, ((((hKr.setAt hp _).setAt hp _).setAt hp _).setAt hp _).drew⟩
        case measure => simp [intOf]; omega
    · obtain rfl : k = n := by omega
      clear hlt
      go_wp2
      go_end0
      exact ⟨rfl, hOr, hKr⟩

theorem iswapRange_at (p N a b n : Nat) (x y z : Int) (d : Nat → Int) (F : Value) (B w : World) (hx : x = a) (hy : y = b) (hz : z = n) (hN : N ≤ 1000) (h1 : a + n ≤ b) (h2 : b + n ≤ N) (hO : IOw C w p N d) (hp : B.heap.size ≤ p) (hK : Kept B w) :
    Calls Try.prog 106 #[.slice (some ⟨p, 0, none⟩) N cap, .int .i64 x, .int .i64 y, .int .i64 z, F] w (IWrote C B p N (swR d a b n)) := by
  subst hx hy hz
  exact iswapRange_any p N a b n d F B w hN h1 h2 hO hp hK

set_option maxRecDepth 100000 in
set_option maxHeartbeats 2000000 in
theorem irotate_any (p N a m b : Nat) (d : Nat → Int) (F : Value) (B w : World) (hN : N ≤ 1000) (h1 : a < m) (h2 : m < b) (h3 : b ≤ N) (hO : IOw C w p N d) (hp : B.heap.size ≤ p) (hK : Kept B w) :
    Calls Try.prog 99 #[.slice (some ⟨p, 0, none⟩) N cap, .int .i64 (a : Int), .int .i64 (m : Int), .int .i64 (b : Int), F] w (IWrote C B p N (rot d a m b)) := by
  have hS := ur_start d a m b (by omega) (by omega)
  generalize rot d a m b = T at *
  rw [← hS] at hO
  clear hS
  go_enter Try.func99, Try.ntmps99
  go_wp2
  go_loopw [10, 11] (fun s t wr => ∃ i j : Nat, 1 ≤ i ∧ 1 ≤ j ∧ i ≤ m ∧ m + j ≤ N ∧ s = .int .i64 i ∧ t = .int .i64 j ∧ IOw C wr p N (ur T m i j) ∧ Kept B wr) (fun s t _ => (intOf s + intOf t).toNat)
  case atStart => exact ⟨m - a, b - m, by omega, by omega, by omega, by omega, by congr 1; omega, by congr 1; omega, hO, hK⟩
  case round =>
    obtain ⟨i, j, i1, j1, im, jN, rfl, rfl, hOr, hKr⟩ := hrel
    rcases (show i = j ∨ j < i ∨ i < j by omega) with e | e | e
    · subst e
      go_wp2_with fail
      refine (iswapRange_at p N (m - i) m i _ _ _ _ F B _ (by omega) (by omega) (by omega) hN (by omega) (by omega) hOr hp hKr).mono ?_
      rintro e w1 ⟨rfl, hO1, hK1⟩
      rw [ur_end T m i im] at hO1
      go_wp2
      go_end0
      exact ⟨rfl, hO1, hK1⟩
    · have n1 : (i != j) = true := by rw [bne_iff_ne]; omega
      have n2 : ((i : Int) != (j : Int)) = true := by rw [bne_iff_ne]; omega
      have n3 : decide (j < i) = true := by simpa using e
      go_wp2_with fail
      refine (iswapRange_at p N (m - i) m j _ _ _ _ F B _ (by omega) (by omega) (by omega) hN (by omega) (by omega) hOr hp hKr).mono ?_
      rintro e w1 ⟨rfl, hO1, hK1⟩
      rw [ur_left T m i j (by omega) im] at hO1
      go_wp2
      go_roundw
      case rel => exact ⟨i - j, j, by omega, by omega, by omega, by omega, by congr 1; omega, rfl, hO1, hK1⟩
      case measure => simp [intOf]; omega
    · have n1 : (i != j) = true := by rw [bne_iff_ne]; omega
      have n2 : ((i : Int) != (j : Int)) = true := by rw [bne_iff_ne]; omega
      have n3 : decide (j < i) = false := by simp; omega
      go_wp2_with fail
      refine (iswapRange_at p N (m - i) (m + j - i) i _ _ _ _ F B _ (by omega) (by omega) (by omega) hN (by omega) (by omega) hOr hp hKr).mono ?_
      rintro e w1 ⟨rfl, hO1, hK1⟩
      rw [ur_right T m i j (by omega) im] at hO1
      go_wp2
      go_roundw
      case rel => exact ⟨i, j - i, by omega, by omega, by omega, by omega, rfl, by congr 1; omega, hO1, hK1⟩
      case measure => simp [intOf]; omega

end Go.Proofs.Ytdgiljndoeldcaa
