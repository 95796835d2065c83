/-
  weights of package talkeep: at most 40 numbers below 1000. Condition: the row's length is within its capacity.
-/
import Derived.Test.YtpkdknddncnceabSGrow
import Derived.Test.YtpkdknddncnceabSWalkB
namespace Go.Proofs.Ytpkdknddncnceab
open Go.RowKit

def WeightsPost (w : World) (e : Ending) (w' : World) : Prop :=
  ∃ (m : Nat) (ad : Option Addr) (cap : Nat) (g : Nat → Int), m ≤ 40 ∧ e = .returned (.slice ad m cap) ∧ Arg w' ad m g ∧ (∀ i, i < m → 0 ≤ g i ∧ g i < 1000) ∧ Kept w w'

set_option maxRecDepth 100000 in
set_option maxHeartbeats 4000000 in
theorem weights_any (a : Option Addr) (n cap : Nat) (wt : Nat → Int) (w : World) (hn : n ≤ 4000000000000000000) (hcap : n ≤ cap) (hA : Arg w a n wt) :
    Calls Try.prog 16 #[.slice a n cap] w (WeightsPost w) := by
  by_cases h40 : 40 < n
  · have h41 : (40 : Int) < n := by omega
    have h42 : decide ((n : Int) ≤ 40) = false := by simp; omega
    have h43 : decide ((40 : Int) < n) = true := by simp; omega
    go_enter Try.func16, Try.ntmps16
    go_wp2_with fail
    go_loopw [3, 12] (fun v i wr => ∃ (j : Nat) (g : Nat → Int), j ≤ 40 ∧ i = .int .i64 j ∧ Gr w.heap.size wr v j g ∧ (∀ t, t < j → 0 ≤ g t ∧ g t < 1000) ∧ Kept w wr) (fun _ i _ => (40 - intOf i).toNat)
    case atStart => exact ⟨0, fun _ => 0, by omega, rfl, Gr.nil _ _ _, fun t ht => by omega, Kept.refl w⟩
    case round =>
      obtain ⟨j, g, hj, rfl, hG, hg, hK⟩ := hrel
      by_cases hlt : j < 40
      · obtain ⟨p, off, rfl, hR⟩ := hA.at (by omega)
        have hc := (hR.later hK).cell j (by rw [tab_len]; omega)
        rw [tab_get] at hc
        have HG := Lib.hid hg
        clear hg
        generalize wt j = x at *
        go_wp2_with fail
        refine (within_any _ _ _ (by omega) (by omega)).mono ?_
        rintro e w4 ⟨s, s0, s1, rfl, rfl⟩
        go_wp2_with (at_builtin; refine app_one rfl _ _ rfl (B := w.heap.size) (z := s) rfl rfl (hG.alloc _) (by simp) (by omega) (by have := hK.size; simp; omega) ?_)
        intro v' w1 hG' hgrow _
        have hK' := (hG.alloc _).below (Nat.le_refl _) (hK.alloc _) hgrow
        clear hgrow hG hc
        go_wp2
        go_roundw
        case rel =>
          refine ⟨j + 1, up g j s, by omega, by go_num, hG', fun t ht => ?_, hK'⟩
          by_cases e : t = j
          · subst e; rw [up_same]; omega
          · rw [up_ne _ _ e]; exact HG.out t (by omega)
        case measure => simp [intOf]; omega
      · obtain rfl : j = 40 := by omega
        obtain ⟨ad, cp, rfl, hAr⟩ := hG.arg
        clear hlt hj
        go_wp2
        go_ret
        exact ⟨_, ad, cp, g, by omega, rfl, hAr, hg, hK⟩
  · have h41 : (n : Int) ≤ 40 := by omega
    have h42 : decide ((n : Int) ≤ 40) = true := by simp; omega
    have h43 : decide ((40 : Int) < n) = false := by simp; omega
    go_enter Try.func16, Try.ntmps16
    go_wp2_with fail
    go_loopw [3, 12] (fun v i wr => ∃ (j : Nat) (g : Nat → Int), j ≤ n ∧ i = .int .i64 j ∧ Gr w.heap.size wr v j g ∧ (∀ t, t < j → 0 ≤ g t ∧ g t < 1000) ∧ Kept w wr) (fun _ i _ => (n - intOf i).toNat)
    case atStart => exact ⟨0, fun _ => 0, by omega, rfl, Gr.nil _ _ _, fun t ht => by omega, Kept.refl w⟩
    case round =>
      obtain ⟨j, g, hj, rfl, hG, hg, hK⟩ := hrel
      by_cases hlt : j < n
      · obtain ⟨p, off, rfl, hR⟩ := hA.at (by omega)
        have hc := (hR.later hK).cell j (by rw [tab_len]; omega)
        rw [tab_get] at hc
        have HG := Lib.hid hg
        clear hg
        generalize wt j = x at *
        go_wp2_with fail
        refine (within_any _ _ _ (by omega) (by omega)).mono ?_
        rintro e w4 ⟨s, s0, s1, rfl, rfl⟩
        go_wp2_with (at_builtin; refine app_one rfl _ _ rfl (B := w.heap.size) (z := s) rfl rfl (hG.alloc _) (by simp) (by omega) (by have := hK.size; simp; omega) ?_)
        intro v' w1 hG' hgrow _
        have hK' := (hG.alloc _).below (Nat.le_refl _) (hK.alloc _) hgrow
        clear hgrow hG hc
        go_wp2
        go_roundw
        case rel =>
          refine ⟨j + 1, up g j s, by omega, by go_num, hG', fun t ht => ?_, hK'⟩
          by_cases e : t = j
          · subst e; rw [up_same]; omega
          · rw [up_ne _ _ e]; exact HG.out t (by omega)
        case measure => simp [intOf]; omega
      · obtain rfl : j = n := by omega
        obtain ⟨ad, cp, rfl, hAr⟩ := hG.arg
        clear hlt hj
        go_wp2
        go_ret
        exact ⟨_, ad, cp, g, by omega, rfl, hAr, hg, hK⟩

end Go.Proofs.Ytpkdknddncnceab
