/-
  What slices.Equal says of two rows that read alike, and slices.Max and slices.Min of a row: one of its numbers. No condition but those that each theorem names.
-/
import Derived.Test.YtcelkgbpgpgpjaaSWalkA
namespace Go.Proofs.Ytcelkgbpgpgpjaa
open Go.RowKit

set_option maxHeartbeats 1000000 in
theorem equal_yes (g : Nat → Int) (p off cap q off' cap' n : Nat) (w : World) (hn : n ≤ 1000) (hR : Rd w p off (tab n g)) (hQ : Rd w q off' (tab n g)) :
    Calls Try.prog 13 #[.slice (some ⟨p, off, none⟩) n cap, .slice (some ⟨q, off', none⟩) n cap'] w fun e w' => e = .returned (.bool true) ∧ Drew w w' := by
  have HR := Lib.hid hR.cell
  have HQ := Lib.hid hQ.cell
  clear hR hQ
  go_enter Try.func13, Try.ntmps13
  go_wp2
  go_loopw [13] (fun i wr => ∃ k m : Nat, k ≤ n ∧ i = .int .i64 k ∧ wr = w.drewN m) (fun i _ => (n - intOf i).toNat)
  case atStart => exact ⟨0, 0, by omega, rfl, rfl⟩
  case round =>
    obtain ⟨k, m, hk, rfl, rfl⟩ := hrel
    by_cases hlt : k < n
    · have hc := HR.out k (by rw [tab_len]; exact hlt)
      have hd := HQ.out k (by rw [tab_len]; exact hlt)
      rw [tab_get] at hc hd
      generalize g k = x at *
      have i0 : (0 : Int) ≤ (k : Int) := by omega
      have i1 : (k : Int) < (n : Int) := by omega
      go_wp2_with fail
      go_quiet (fail)
      go_wp2
      go_roundw
      case rel => exact ⟨k + 1, _, by omega, by go_num, rfl⟩
      case measure => simp [intOf]; omega
    · obtain rfl : k = n := by omega
      clear hlt
      go_wp2
      go_ret
      exact ⟨rfl, m, rfl⟩

/-- One of the numbers. -/
def OneOf (g : Nat → Int) (n : Nat) (w : World) (e : Ending) (w' : World) : Prop := ∃ j, j < n ∧ e = .returned (.int .i64 (g j)) ∧ w = w'
set_option maxHeartbeats 1000000 in
theorem min_any (g : Nat → Int) (p off cap n : Nat) (w : World) (n1 : 1 ≤ n) (hn : n ≤ 1000) (hR : Rd w p off (tab n g)) :
    Calls Try.prog 21 #[.slice (some ⟨p, off, none⟩) n cap] w (OneOf g n w) := by
  have HR := Lib.hid hR.cell
  have h0 := hR.cell 0 (by rw [tab_len]; omega)
  rw [tab_get, Nat.add_zero] at h0
  clear hR
  have i1 : (1 : Int) ≤ (n : Int) := by omega
  have c4 : 0 < n := by omega
  go_enter Try.func21, Try.ntmps21
  go_wp2
  clear h0
  go_loop [3, 4] (fun m i => ∃ k j : Nat, 1 ≤ k ∧ k ≤ n ∧ j < n ∧ i = .int .i64 k ∧ m = .int .i64 (g j)) (fun _ i => (n - intOf i).toNat)
  case atStart => exact ⟨1, 0, by omega, by omega, by omega, rfl, rfl⟩
  case round =>
    obtain ⟨k, j, k1, hk, hj, rfl, rfl⟩ := hrel
    by_cases hlt : k < n
    · have hc := HR.out k (by rw [tab_len]; exact hlt)
      rw [tab_get] at hc
      go_wp2
      all_goals
        go_round
        case rel =>
          by_cases z : g k < g j
          · exact ⟨k + 1, k, by omega, by omega, hlt, by go_num, by rw [if_pos z]⟩
          · exact ⟨k + 1, j, by omega, by omega, hj, by go_num, by rw [if_neg z]⟩
        case measure => simp [intOf]; omega
    · obtain rfl : k = n := by omega
      clear hlt
      go_wp2
      go_ret
      exact ⟨j, hj, rfl, rfl⟩

end Go.Proofs.Ytcelkgbpgpgpjaa
