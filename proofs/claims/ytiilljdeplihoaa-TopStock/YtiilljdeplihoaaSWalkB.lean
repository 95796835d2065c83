/-
  What slices.Equal says of two rows that read alike, and slices.Max and slices.Min of a row: one of its numbers. No condition but those that each theorem names.
-/
import Derived.Test.YtiilljdeplihoaaSWalkA
namespace Go.Proofs.Ytiilljdeplihoaa
open Go.RowKit

set_option maxHeartbeats 1000000 in
theorem equal_yes (g : Nat → Int) (p off cap q off' cap' n : Nat) (w : World) (hn : n ≤ 1000) (hR : Rd w p off (tab n g)) (hQ : Rd w q off' (tab n g)) :
    Calls Try.prog 14 #[.slice (some ⟨p, off, none⟩) n cap, .slice (some ⟨q, off', none⟩) n cap'] w fun e w' => e = .returned (.bool true) ∧ Drew w w' := by
  have HR := Lib.hid hR.cell
  have HQ := Lib.hid hQ.cell
  clear hR hQ
  go_enter Try.func14, Try.ntmps14
  go_wp2
  go_loopw [13] (fun i wr => ∃ k m : Nat, k ≤ n ∧ i = .int .i64 k ∧ wr = w.drewN m) (fun i _ => (n - intOf i).toNat)
  case atStart => exact ⟨0, 0, by omega, rfl, rfl⟩
  case round =>
    obtain ⟨k, m, hk, rfl, rfl⟩ := hrel
    by_cases hlt : k < n
    · have hc := HR.out k (by rw [tab_len]; exact hlt)
      have hd := HQ.out k (by rw [tab_len]; exact hlt)
      rw [tab_get] at hc hd
      generalize g k = x at *
      have i0 : (0 : Int) ≤ (k : Int) := by omega
      have i1 : (k : Int) < (n : Int) := by omega
      go_wp2_with fail
      go_quiet (fail)
      go_wp2
      go_roundw
      case rel => exact ⟨k + 1, _, by omega, by go_num, rfl⟩
      case measure => simp [intOf]; omega
    · obtain rfl : k = n := by omega
      clear hlt
      go_wp2
      go_ret
      exact ⟨rfl, m, rfl⟩

/-- One of the numbers. -/
def OneOf (g : Nat → Int) (n : Nat) (w : World) (e : Ending) (w' : World) : Prop := ∃ j, j < n ∧ e = .returned (.int .i64 (g j)) ∧ w = w'
end Go.Proofs.Ytiilljdeplihoaa
