/-
  What the laws' interest and slices.Equal return of rows of periods. No condition but those that each theorem names.
-/
import Derived.Test.YtcfcbglnmhoknabDoorKWalkA
namespace Go.Proofs.YtcfcbglnmhoknabDoor
open Go.RowKit

set_option maxHeartbeats 2000000 in
theorem requal_yes (R : Rw) (a b : Option Addr) (n cap cap' : Nat) (w : World) (hn : n ≤ 1000) (hR : RArg w a n R) (hQ : RArg w b n R) :
    Calls Tryd.prog 37 #[.slice a n cap, .slice b n cap'] w fun e w' => e = .returned (.bool true) ∧ Drew w w' := by
  have HR := Lib.hid hR
  have HQ := Lib.hid hQ
  clear hR hQ
  go_enter Tryd.func37, Tryd.ntmps37
  go_wp2
  go_loopw [13] (fun i wr => ∃ k m : Nat, k ≤ n ∧ i = .int .i64 k ∧ wr = w.drewN m) (fun i _ => (n - intOf i).toNat)
  case atStart => exact ⟨0, 0, by omega, rfl, rfl⟩
  case round =>
    obtain ⟨k, m, hk, rfl, rfl⟩ := hrel
    by_cases hlt : k < n
    · obtain ⟨p, rfl, hp⟩ := HR.out.at (by omega)
      obtain ⟨q, rfl, hq⟩ := HQ.out.at (by omega)
      have c0 := hp.c0 k hlt
      have c1 := hp.c1 k hlt
      have c2 := hp.c2 k hlt
      have d0 := hq.c0 k hlt
      have d1 := hq.c1 k hlt
      have d2 := hq.c2 k hlt
      clear hp hq
      generalize R.i k = x at *
      generalize R.o k = y at *
      generalize R.l k = z at *
      have i0 : (0 : Int) ≤ (k : Int) := by omega
      have i1 : (k : Int) < (n : Int) := by omega
      go_wp2_with fail
      go_quiet (fail)
      go_wp2
      go_roundw
      case rel => exact ⟨k + 1, _, by omega, by go_num, rfl⟩
      case measure => simp [intOf]; omega
    · obtain rfl : k = n := by omega
      clear hlt
      go_wp2
      go_ret
      exact ⟨rfl, m, rfl⟩

end Go.Proofs.YtcfcbglnmhoknabDoor
