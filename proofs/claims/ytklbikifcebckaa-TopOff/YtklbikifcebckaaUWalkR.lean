/-
  What slices.Repeat makes of one 1, and what the end-to-end tests' sum returns. No condition but those that each theorem names.
-/
import Derived.Test.YtklbikifcebckaaUMul
import Derived.Test.YtklbikifcebckaaUWalkA
import Derived.Test.YtklbikifcebckaaSWalkA
import Derived.Test.YtklbikifcebckaaLBase
namespace Go.Proofs.Ytklbikifcebckaa
open Go.RowKit Go.Lib
set_option linter.unusedVariables false

/-- So many ones, and noughts behind them. -/
def onesTo (m : Nat) : Nat → Int := fun i => if i < m then 1 else 0
def one1 (c : Nat) : List Value := List.replicate c (.int .i64 1)
theorem Own.fill : ∀ (c : Nat) {w : World} {p n m : Nat}, Own w p (tab n (onesTo m)) → m + c ≤ n → Own (w.setCells p m (one1 c)) p (tab n (onesTo (m + c)))
  | 0, _, _, _, _, h, _ => h
  | c + 1, w, p, n, m, h, hc => by
    have h1 := h.set m 1 (by rw [tab_len]; omega)
    rw [tab_set] at h1
    have e : tab n (up (onesTo m) m 1) = tab n (onesTo (m + 1)) := tab_congr n fun j hj => by
      by_cases q : j = m
      · subst q; rw [up_same]; unfold onesTo; rw [if_pos (by omega)]
      · rw [up_ne _ _ q]; unfold onesTo
        by_cases q2 : j < m
        · rw [if_pos q2, if_pos (by omega)]
        · rw [if_neg q2, if_neg (by omega)]
    rw [e] at h1
    have h2 := Own.fill c h1 (by omega)
    rw [show m + 1 + c = m + (c + 1) by omega] at h2
    exact h2
theorem one1_len (c : Nat) : (one1 c).length = c := by simp [one1]
theorem one1_at {c j : Nat} {v : Value} (h : (one1 c)[j]? = some v) : j < c ∧ v = .int .i64 1 := by
  have hlt := (List.getElem?_eq_some_iff.1 h).1
  rw [one1_len] at hlt
  rw [List.getElem?_eq_getElem (by rw [one1_len]; exact hlt)] at h
  simp [one1] at h
  exact ⟨hlt, h.symm⟩
theorem sizeInt : (Try.prog.info? 3).map (·.size) = some 1 := by kernel_rfl
/-- A copy of ones. -/
theorem copy_ones (w : World) (p m n dc sc c sp so sl : Nat) (ty : TypeId) (hc : Nat.min sl (n - m) = c) (hO : Own w p (tab n (onesTo m))) (hm : m ≤ n) (hs : ∀ j, j < c → w.cell? ⟨sp, so + j, none⟩ = some (.int .i64 1)) :
    (Builtin.copy_ #[47, 47] ty #[.slice (some ⟨p, m, none⟩) (n - m) dc, .slice (some ⟨sp, so, none⟩) sl sc]).run Try.prog w = .ok (goInt c) (w.setCells p m (one1 c)) := by
  have hcn : c ≤ n - m := by rw [← hc]; exact Nat.min_le_right _ _
  have h := run_copy_cellsK (P := Try.prog) w 47 47 ty 3 p m (n - m) dc ⟨sp, so, none⟩ sl sc (one1 c) 1 Try.underlying47 sizeInt (by rw [one1_len, hc]; omega)
    (fun j v hj => by obtain ⟨a, rfl⟩ := one1_at hj; rw [Addr.add_lit]; exact hs j a)
    (fun j hj => by rw [one1_len] at hj; rw [hO.cell (m + j) (by rw [tab_len]; omega)]; rfl)
    (fun j hj => by rw [one1_len] at hj; exact hO.free (m + j) (by rw [tab_len]; omega))
    (fun v hv => by rw [List.eq_of_mem_replicate hv]; rfl)
  rw [hc] at h
  exact h
set_option maxRecDepth 100000 in
set_option maxHeartbeats 4000000 in
theorem repeat_ones (sp n cap : Nat) (w : World) (n1 : 1 ≤ n) (n2 : n ≤ 1000) (hs : w.cell? ⟨sp, 0, none⟩ = some (.int .i64 1)) (hsp : sp < w.heap.size) :
    Calls Try.prog 42 #[.slice (some ⟨sp, 0, none⟩) 1 cap, .int .i64 n] w fun e w' => ∃ p, w.heap.size ≤ p ∧ e = .returned (.slice (some ⟨p, 0, none⟩) n n) ∧ Own w' p (tab n fun _ => 1) ∧ Kept w w' := by
  have mk := make_ints n (by omega)
  have M1 : 1 * n / 18446744073709551616 = 0 := by omega
  have M2 : 1 * n % 18446744073709551616 = n := by omega
  have BM := Lib.hid (fun W => Try.bits_Mul 1 n (by omega) (by omega) W)
  rw [M1, M2] at BM
  have hu : IntKind.u64.wrap (n : Int) = n := by rw [IntKind.wrap_u64]; omega
  have hi : IntKind.i64.wrap (n : Int) = n := by rw [IntKind.wrap_i64]; omega
  have g1 : ¬ (n : Int) < 0 := by omega
  have g2 : ¬ (9223372036854775807 : Int) < (n : Int) := by omega
  have HO := Lib.hid (show Own (w.alloc (.cells (zs n) 3)) w.heap.size (tab n (onesTo 0)) by
    have h := Own.made (w := w) (n := n) (p := w.heap.size) (t := 3) rfl
    rw [tab_zero] at h
    rw [show tab n (onesTo 0) = tab n (fun _ => 0) from tab_congr n fun j hj => by unfold onesTo; rw [if_neg (by omega)]]
    exact h)
  have kA := (Kept.refl w).alloc (.cells (zs n) 3)
  have C1 := Lib.hid (fun ty => copy_ones (w.alloc (.cells (zs n) 3)) w.heap.size 0 n n cap 1 sp 0 1 ty (Nat.min_eq_left (by omega)) HO.out (by omega) (fun j hj => by rw [Nat.zero_add, show j = 0 by omega]; exact (kA.rd.1 _ _ hsp).trans hs))
  rw [Nat.sub_zero] at C1
  have HO1 := Lib.hid (Own.fill 1 HO.out (by omega))
  have K1 := Lib.hid (Kept.setCells (w := w.alloc (.cells (zs n) 3)) (one1 1) 0 kA (Nat.le_refl _))
  rw [Nat.zero_add] at HO1
  clear hs M1 M2 kA
  go_enter Try.func42, Try.ntmps42
  go_wp2_with fail
  refine (BM.out _).mono ?_
  rintro e w1 ⟨rfl, hw1⟩
  obtain rfl : w = w1 := hw1.symm
  go_wp2_with (refine wpList_copy_runI _ rfl _ _ 47 47 rfl _ _ rfl rfl (C1.out _) ?_)
  have hsz : (w.alloc (.cells (zs n) 3)).heap.size = w.heap.size + 1 := by simp
  generalize hW1 : (w.alloc (.cells (zs n) 3)).setCells w.heap.size 0 (one1 1) = W1 at *
  generalize hp : w.heap.size = p at *
  have hpp : w.heap.size ≤ p := by omega
  clear hW1 hp hsz C1 HO mk
  go_loopw [8] (fun s8 wr => ∃ m : Nat, 1 ≤ m ∧ m ≤ n ∧ s8 = .int .i64 m ∧ Own wr p (tab n (onesTo m)) ∧ Kept w wr) (fun s8 _ => n - (RowKit.intOf s8).toNat)
  case atStart => exact ⟨1, by omega, n1, rfl, HO1.out, K1.out⟩
  case round =>
    obtain ⟨m, m1, mn, rfl, hO, hK⟩ := hrel
    by_cases hlt : m < n
    · obtain ⟨c, hc⟩ : ∃ c, Nat.min m (n - m) = c := ⟨_, rfl⟩
      have hc1 : 1 ≤ c := by rw [← hc]; exact Nat.le_min.2 ⟨m1, by omega⟩
      have hc2 : c ≤ m := by rw [← hc]; exact Nat.min_le_left _ _
      have hc3 : c ≤ n - m := by rw [← hc]; exact Nat.min_le_right _ _
      have CP := Lib.hid (fun (W : World) (hOW : Own W p (tab n (onesTo m))) ty dc sc => copy_ones W p m n dc sc c p 0 m ty hc hOW mn (fun j hj => by
        rw [hOW.cell (0 + j) (by rw [tab_len]; omega), tab_get, Nat.zero_add]; unfold onesTo; rw [if_pos (by omega)]))
      have HF := Lib.hid (Own.fill c hO (by omega))
      have HKF := Lib.hid (Kept.setCells (w := wr) (one1 c) m hK hpp)
      have i0 : (0 : Int) ≤ (m : Int) := by omega
      have i1 : (m : Int) < (n : Int) := by omega
      have i2 : (m : Int) ≤ (n : Int) := by omega
      have i3 : ¬ n = m := by omega
      have i4 : IntKind.i64.wrap ((m : Int) + (c : Int)) = (m : Int) + (c : Int) := by rw [IntKind.wrap_i64]; omega
      have HO := Lib.hid hO
      have mixed := mixedOk
      clear hO hc
      go_wp2_with fail
      go_region_law (refine step_copy_runI rfl _ _ 47 47 rfl (.slice (some ⟨p, m, none⟩) (n - m) (n - m)) (.slice (some ⟨p, 0, none⟩) m n) (by simp [Act.eval, Act.put]) (by simp [Act.eval, Act.put]) (CP.out _ (by first | exact HO.out | exact HO.out.drew) 3 (n - m) n) ?_)
      go_simp
      go_wp2
      go_roundw
      case rel => exact ⟨m + c, by omega, by omega, by go_num, by first | exact HF.out | (rw [drew_setCells]; exact HF.out.drew), by first | exact HKF.out | (rw [drew_setCells]; exact HKF.out.drew)⟩
      case measure => simp [RowKit.intOf]; omega
    · obtain rfl : m = n := by omega
      clear hlt
      have e : tab m (onesTo m) = tab m (fun _ => 1) := tab_congr m fun j hj => by unfold onesTo; rw [if_pos hj]
      rw [e] at hO
      go_wp2
      go_ret
      exact ⟨p, hpp, rfl, hO, hK⟩
set_option maxRecDepth 100000 in
set_option maxHeartbeats 2000000 in
theorem tsum_any (g : Nat → Int) (n : Nat) (a : Option Addr) (cap : Nat) (w : World) (hn : n ≤ 1000) (hb : ∀ i, i < n → -1000000000000 ≤ g i ∧ g i ≤ 1000000000000) (hA : Arg w a n g) :
    Calls Try.prog 43 #[.slice a n cap] w fun e w' => e = .returned (.int .i64 (sumTo g n)) ∧ w = w' := by
  have HA := Lib.hid hA
  have HB := Lib.hid hb
  clear hA hb
  go_enter Try.func43, Try.ntmps43
  go_wp2
  go_loop [3, 8] (fun s i => ∃ k : Nat, k ≤ n ∧ i = .int .i64 k ∧ s = .int .i64 (sumTo g k)) (fun _ i => n - (RowKit.intOf i).toNat)
  case atStart => exact ⟨0, Nat.zero_le _, rfl, rfl⟩
  case round =>
    obtain ⟨k, hk, rfl, rfl⟩ := hrel
    by_cases hlt : k < n
    · obtain ⟨p, off, rfl, hR⟩ := HA.out.at (by omega)
      have c0 := hR.cell k (by rw [tab_len]; exact hlt)
      rw [tab_get] at c0
      have plt := hR.lt
      have S := sumTo_bd g 1000000000000 k (fun j hj => HB.out j (by omega))
      have z := HB.out k hlt
      have SS := Lib.hid (show sumTo g (k + 1) = sumTo g k + g k from rfl)
      have i0 : (0 : Int) ≤ (k : Int) := by omega
      have i1 : (k : Int) < (n : Int) := by omega
      generalize sumTo g k = S0 at *
      generalize g k = x at *
      have u1 : IntKind.i64.wrap (S0 + x) = S0 + x := IntWalk.i64_in _ (by omega)
      clear hR
      go_wp2
      go_round
      case rel => exact ⟨k + 1, by omega, by go_num, by rw [SS.out]⟩
      case measure => simp [RowKit.intOf]; omega
    · obtain rfl : k = n := by omega
      clear hlt
      go_wp2
      go_ret
      exact ⟨rfl, rfl⟩
end Go.Proofs.Ytklbikifcebckaa
