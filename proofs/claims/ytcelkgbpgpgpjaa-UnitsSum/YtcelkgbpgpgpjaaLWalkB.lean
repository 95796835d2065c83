/-
  The greatest and the least of a row, as functions of it; the first ones of a row. No condition but those that each theorem names.
-/
import Derived.Test.YtcelkgbpgpgpjaaLWalkA
namespace Go.Proofs.Ytcelkgbpgpgpjaa
open Go.RowKit

theorem Rd.take {w : World} {p off n : Nat} {g : Nat → Int} (h : Rd w p off (tab n g)) (k : Nat) (hk : k ≤ n) : Rd w p off (tab k g) :=
  ⟨h.lt, fun j hj => by
    rw [tab_len] at hj
    have := h.cell j (by rw [tab_len]; omega)
    rw [tab_get] at this ⊢; exact this⟩
def mxV (g : Nat → Int) : Nat → Int
  | 0 => g 0
  | k + 1 => if mxV g k < g k then g k else mxV g k
def mnV (g : Nat → Int) : Nat → Int
  | 0 => g 0
  | k + 1 => if g k < mnV g k then g k else mnV g k
theorem mxV_one (g : Nat → Int) (n : Nat) (n1 : 1 ≤ n) : ∃ j, j < n ∧ mxV g n = g j := by
  induction n with
  | zero => omega
  | succ n ih =>
    rw [mxV]
    by_cases c : n = 0
    · subst c; exact ⟨0, by omega, by rw [mxV]; split <;> rfl⟩
    · obtain ⟨j, hj, e⟩ := ih (by omega)
      split
      · exact ⟨n, by omega, rfl⟩
      · exact ⟨j, by omega, e⟩
theorem mnV_one (g : Nat → Int) (n : Nat) (n1 : 1 ≤ n) : ∃ j, j < n ∧ mnV g n = g j := by
  induction n with
  | zero => omega
  | succ n ih =>
    rw [mnV]
    by_cases c : n = 0
    · subst c; exact ⟨0, by omega, by rw [mnV]; split <;> rfl⟩
    · obtain ⟨j, hj, e⟩ := ih (by omega)
      split
      · exact ⟨n, by omega, rfl⟩
      · exact ⟨j, by omega, e⟩
set_option maxHeartbeats 1000000 in
theorem min_val (g : Nat → Int) (p off cap n : Nat) (w : World) (n1 : 1 ≤ n) (hn : n ≤ 1000) (hR : Rd w p off (tab n g)) :
    Calls Try.prog 21 #[.slice (some ⟨p, off, none⟩) n cap] w fun e w' => e = .returned (.int .i64 (mnV g n)) ∧ w = w' := by
  have HR := Lib.hid hR.cell
  have h0 := hR.cell 0 (by rw [tab_len]; omega)
  rw [tab_get, Nat.add_zero] at h0
  clear hR
  have i1 : (1 : Int) ≤ (n : Int) := by omega
  have c4 : 0 < n := by omega
  go_enter Try.func21, Try.ntmps21
  go_wp2
  clear h0
  go_loop [3, 4] (fun m i => ∃ k : Nat, 1 ≤ k ∧ k ≤ n ∧ i = .int .i64 k ∧ m = .int .i64 (mnV g k)) (fun _ i => (n - intOf i).toNat)
  case atStart => exact ⟨1, by omega, by omega, rfl, by simp [mnV]⟩
  case round =>
    obtain ⟨k, k1, hk, rfl, rfl⟩ := hrel
    by_cases hlt : k < n
    · have hc := HR.out k (by rw [tab_len]; exact hlt)
      rw [tab_get] at hc
      generalize hx : mnV g k = x at *
      go_wp2
      all_goals
        go_round
        case rel => exact ⟨k + 1, by omega, by omega, by go_num, by rw [show mnV g (k + 1) = if g k < x then g k else x by rw [← hx]; rfl]⟩
        case measure => simp [intOf]; omega
    · obtain rfl : k = n := by omega
      clear hlt
      go_wp2
      go_ret
      exact ⟨rfl, rfl⟩

end Go.Proofs.Ytcelkgbpgpgpjaa
