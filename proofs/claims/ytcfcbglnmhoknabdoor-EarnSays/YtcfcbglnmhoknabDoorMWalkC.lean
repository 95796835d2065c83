/-
  The reference's Rate and Round. No condition but those that each theorem names.
-/
import Derived.Test.YtcfcbglnmhoknabDoorWalkF
namespace Go.Proofs.YtcfcbglnmhoknabDoor
open Go.RowKit

/-- Go's k & 1. -/
theorem and_one_i64 (k : Int) : bits .and .i64 k 1 = k % 2 := by
  show IntKind.i64.wrap ((BitVec.ofInt 64 k &&& BitVec.ofInt 64 1).toNat : Int) = _
  have e : (BitVec.ofInt 64 1).toNat = 1 := by decide
  rw [BitVec.toNat_and, e, Nat.and_one_is_mod, BitVec.toNat_ofInt, IntWalk.i64_in _ (by omega)]
  omega

set_option maxHeartbeats 4000000 in
theorem rround_any (n d way : Int) (w : World) (h1 : -1000000000000000000 ≤ n) (h2 : n ≤ 1000000000000000000) (h3 : 1 ≤ d) (h4 : d ≤ 2000000) (w0 : 0 ≤ way) (w3 : way ≤ 3) :
    Calls Tryd.prog 42 #[.int .i64 n, .int .i64 d, .int .i64 way] w fun e w' => e = .returned (.int .i64 (rnd n d way)) ∧ w = w' := by
  have dz : (d == 0) = false := by rw [beq_eq_false_iff_ne]; omega
  have tb := tdiv_bd n d _ h3 h1 h2
  have db := div_bd n d _ h3 h1 h2
  obtain ⟨r0, r1⟩ := emod_bd n d (by omega)
  have RE := Lib.hid (rest_eq n d)
  have st : n / d ≤ n.tdiv d ∧ n.tdiv d ≤ n / d + 1 := by
    by_cases c : n.tmod d < 0
    · have := (tdiv_neg n d h3 c).1; omega
    · have := (tdiv_pos n d h3 (by omega)).1; omega
  have SW := Lib.hid (switch_rnd n d way h3 w0 w3)
  generalize rnd n d way = R at *
  have PL := Lib.hid (fun k => place n d k h3)
  have MB := Lib.hid (fun k => mul_bd2 n d k h3 h4 h1 h2)
  go_enter Tryd.func42, Tryd.ntmps42
  go_wp2
  go_loop [7] (fun t => ∃ k : Int, t = .int .i64 k ∧ n / d ≤ k ∧ k ≤ n / d + 1) (fun t => (intOf t - n / d).toNat)
  case atStart => exact ⟨n.tdiv d, rfl, st.1, st.2⟩
  case round =>
    obtain ⟨k, rfl, k0, k1⟩ := hrel
    have mb := MB.out k (by omega) (by omega)
    by_cases hc : n < k * d
    · have k2 : n / d < k := (PL.out k).1 hc
      go_wp2
      go_round
      case rel => exact ⟨k - 1, rfl, by omega, by omega⟩
      case measure => simp [intOf]; omega
    · have k2 : k = n / d := by
        have : ¬ n / d < k := fun z => hc ((PL.out k).2 z)
        omega
      have hc' : decide (n < k * d) = false := by simpa using hc
      clear hc
      subst k2
      have mb2 := MB.out (n / d + 1) (by omega) (by omega)
      have hd1 : n < (n / d + 1) * d := (PL.out (n / d + 1)).2 (by omega)
      have hd' : decide ((n / d + 1) * d ≤ n) = false := by simp; omega
      clear hd1 st tb
      go_wp2
      go_loop [7] (fun t => t = .int .i64 (n / d)) (fun _ => 0)
      case atStart => rfl
      case round =>
        subst hrel
        have sw := SW.out
        unfold Switch at sw
        have re := RE.out
        have rb : n - n / d * d < d := by omega
        have rb0 : 0 ≤ n - n / d * d := by omega
        generalize hr : n % d = r at *
        have RM := Lib.hid (show n - n / d * d = r from re)
        clear re PL MB RE SW hr
        rcases sw with ⟨h, hv⟩ | ⟨hz, ⟨hw, hv⟩ | ⟨hw, ⟨hl, hv⟩ | ⟨hl, hv⟩ | ⟨hl, ⟨hw, hv⟩ | ⟨hw, ⟨hn, hv⟩ | ⟨hn, hv⟩⟩⟩⟩⟩
        · have VV := Lib.hid hv
          clear hv
          by_cases hz : r = 0
          · have z0 : (n - n / d * d == 0) = true := by rw [beq_iff_eq, RM.out]; exact hz
            clear h hz
            go_wp2
            go_ret
            exact ⟨ret_int VV.out.symm, rfl⟩
          · have z0 : (n - n / d * d == 0) = false := by rw [beq_eq_false_iff_ne, RM.out]; exact hz
            obtain rfl : way = 0 := by omega
            clear h hz
            go_wp2
            go_ret
            exact ⟨ret_int VV.out.symm, rfl⟩
        · have z0 : (n - n / d * d == 0) = false := by rw [beq_eq_false_iff_ne, RM.out]; exact hz
          have VV := Lib.hid hv
          subst hw
          clear hv hz
          go_wp2
          go_ret
          exact ⟨ret_int VV.out.symm, rfl⟩
        · have z0 : (n - n / d * d == 0) = false := by rw [beq_eq_false_iff_ne, RM.out]; exact hz
          have VV := Lib.hid hv
          have y0 : (way == 0) = false := by rw [beq_eq_false_iff_ne]; omega
          have y1 : (way == 1) = false := by rw [beq_eq_false_iff_ne]; omega
          have c1 : decide (n - n / d * d < d - (n - n / d * d)) = true := by simp; have := RM.out; omega
          clear hv hz hw
          go_wp2
          go_ret
          exact ⟨ret_int VV.out.symm, rfl⟩
        · have z0 : (n - n / d * d == 0) = false := by rw [beq_eq_false_iff_ne, RM.out]; exact hz
          have VV := Lib.hid hv
          have y0 : (way == 0) = false := by rw [beq_eq_false_iff_ne]; omega
          have y1 : (way == 1) = false := by rw [beq_eq_false_iff_ne]; omega
          have c1 : decide (n - n / d * d < d - (n - n / d * d)) = false := by simp; have := RM.out; omega
          have c2 : decide (d - (n - n / d * d) < n - n / d * d) = true := by simp; have := RM.out; omega
          clear hv hz hw
          go_wp2
          go_ret
          exact ⟨ret_int VV.out.symm, rfl⟩
        · have z0 : (n - n / d * d == 0) = false := by rw [beq_eq_false_iff_ne, RM.out]; exact hz
          have c1 : decide (n - n / d * d < d - (n - n / d * d)) = false := by simp; have := RM.out; omega
          have c2 : decide (d - (n - n / d * d) < n - n / d * d) = false := by simp; have := RM.out; omega
          subst hw
          have AO := and_one_i64 (n / d)
          have VV := Lib.hid hv
          have m2 : 0 ≤ n / d % 2 ∧ n / d % 2 ≤ 1 := by omega
          clear hv hz
          go_wp2
          go_ret
          exact ⟨ret_int VV.out.symm, rfl⟩
        · have z0 : (n - n / d * d == 0) = false := by rw [beq_eq_false_iff_ne, RM.out]; exact hz
          have c1 : decide (n - n / d * d < d - (n - n / d * d)) = false := by simp; have := RM.out; omega
          have c2 : decide (d - (n - n / d * d) < n - n / d * d) = false := by simp; have := RM.out; omega
          subst hw
          have VV := Lib.hid hv
          clear hv hz
          go_wp2
          go_ret
          exact ⟨ret_int VV.out.symm, rfl⟩
        · have z0 : (n - n / d * d == 0) = false := by rw [beq_eq_false_iff_ne, RM.out]; exact hz
          have c1 : decide (n - n / d * d < d - (n - n / d * d)) = false := by simp; have := RM.out; omega
          have c2 : decide (d - (n - n / d * d) < n - n / d * d) = false := by simp; have := RM.out; omega
          subst hw
          have n0 : decide (0 < n) = false := by simpa using hn
          have VV := Lib.hid hv
          clear hv hz hn
          go_wp2
          go_ret
          exact ⟨ret_int VV.out.symm, rfl⟩

end Go.Proofs.YtcfcbglnmhoknabDoor
