/-
  The law AgeTwice: for all items and two amounts it answers true; nothing that was there is turned. No condition but those that each theorem names.
-/
import Derived.Test.YtdgiljndoeldcaaGPay
import Derived.Test.YtdgiljndoeldcaaGKeep
namespace Go.Proofs.Ytdgiljndoeldcaa
open Go.RowKit
set_option linter.unusedVariables false

theorem payl_ok {l : List Mv} (ok : ItOk l) {n : Int} (h0 : 0 ≤ n) : ItOk (payL (srtD l) n) ∧ srtD (payL (srtD l) n) = payL (srtD l) n := by
  have ok2 := ok.perm (srtD_perm l).symm
  obtain ⟨a, b⟩ := pay_it (n := n) ok2.it h0
  exact ⟨⟨by have := ok2.len; omega, a⟩, srtD_id (pay_srt (srtD_srt l))⟩
/-- Pay's answer by its two parts. -/
def PayE (w : World) (m : List Mv) (r : Int) (e : Ending) (w' : World) : Prop :=
  ∃ a c, e = .returned (.tuple #[.slice a m.length c, .int .i64 r, .int .i64 0]) ∧ ItsRet w w' a c m ∧ Kept w w'
theorem pay_is (a : Option Addr) (l : List Mv) (cap : Nat) (n : Int) (w : World) (m : List Mv) (r : Int) (hA : JArg eP w a l) (z : a = none → cap = 0) (ok : ItOk l) (n0 : 0 ≤ n) (n1 : n ≤ 1000000000000) (hm : payL (srtD l) n = m) (hr : payR (srtD l) n = r) :
    Calls Try.prog 15 #[.slice a l.length cap, .int .i64 n] w (PayE w m r) := by
  subst hm hr
  exact pay_yes a l cap n w hA z ok n0 n1
theorem it_ok {l : List Mv} (h : itE l = 0) : ItOk l := itE_iff.1 h
theorem twice_facts {l : List Mv} (ok : ItOk l) {x y : Int} (x0 : 0 ≤ x) (y0 : 0 ≤ y) : ∃ (m1 m3 : List Mv) (r1 r2 : Int), payL (srtD l) x = m1 ∧ payR (srtD l) x = r1 ∧ payL (srtD l) (x + y) = m3 ∧ payR (srtD l) (x + y) = r1 + r2 ∧ ItOk m1 ∧ payL (srtD m1) y = m3 ∧ payR (srtD m1) y = r2 ∧ (0 ≤ r1 ∧ r1 ≤ x) ∧ (0 ≤ r2 ∧ r2 ≤ y) ∧ m3.length ≤ 40 := by
  have pos : ∀ v ∈ srtD l, 1 ≤ v.2 := fun v hv => (ok.it v ((srtD_perm l).subset hv)).2.2.1
  obtain ⟨t1, t2⟩ := pay_twice (l := srtD l) (a := x) (b := y) pos x0 y0
  obtain ⟨ok2, sd2⟩ := payl_ok ok x0
  have r1 := (pay_sum (l := srtD l) (n := x) pos x0).2
  have r2 := (pay_sum (l := payL (srtD l) x) (n := y) (fun v hv => (ok2.it v hv).2.2.1) y0).2
  refine ⟨_, _, _, _, rfl, rfl, rfl, t2, ok2, by rw [sd2, t1], by rw [sd2], ⟨r1.1, r1.2.1⟩, ⟨r2.1, r2.2.1⟩, ?_⟩
  exact (payl_ok ok (n := x + y) (by omega)).1.len
set_option maxRecDepth 100000 in
set_option maxHeartbeats 8000000 in
theorem ageTwice_walk (a : Option Addr) (l : List Mv) (cap : Nat) (k1 k2 : Int) (w : World) (hA : JArg eP w a l) (hc : l.length ≤ cap) (hn : cap ≤ maxLen) (z : a = none → cap = 0) :
    Calls Try.prog 6 #[.slice a l.length cap, .int .i64 k1, .int .i64 k2] w fun e w' => e = .returned (.bool true) ∧ Below w.heap.size w w' := by
  have F0 := Lib.hid (pay_is (some ⟨w.heap.size, 0, none⟩) [(0, 3)] 1 5 (w.alloc (.cells #[.int .i64 0, .int .i64 3] 31)) [] 2 (JArg.lit eP _ _ _ rfl rfl) (fun e => by cases e) (it_ok (by decide +kernel)) (by decide) (by decide) (by decide +kernel) (by decide +kernel))
  have KA := (Kept.refl w).alloc (.cells #[.int .i64 0, .int .i64 3] 31)
  have HA := Lib.hid hA
  have hl : l.length ≤ maxLen := Nat.le_trans hc hn
  clear hA
  by_cases er : itE l = 0
  · have ok := it_ok er
    clear er
    go_enter Try.func6, Try.ntmps6
    go_wp2_with fail
    refine F0.out.mono ?_
    rintro e w1 ⟨a0, c0, rfl, hR0, hK0⟩
    have hK1 := KA.trans hK0
    clear F0 KA hR0 hK0
    go_wp2_with fail
    refine (skWithin_any _ _ _ (by decide) (by decide)).mono ?_
    rintro e w2 ⟨x, x0, x1, rfl, rfl⟩
    go_wp2_with fail
    refine (skWithin_any _ _ _ (by decide) (by decide)).mono ?_
    rintro e w2 ⟨y, y0, y1, rfl, rfl⟩
    obtain ⟨m1, m3, r1, r2, e1, e2, e3, e4, ok1, e5, e6, b1, b2, b3⟩ := twice_facts ok x0 y0
    have P1 := Lib.hid (pay_is a l cap x w1 m1 r1 (HA.out.later hK1) z ok x0 (by omega) e1 e2)
    have hsum : IntKind.i64.wrap (x + y) = x + y := IntWalk.i64_in _ (by omega)
    have hw : IntKind.i64.wrap (r1 + r2) = r1 + r2 := IntWalk.i64_in _ (by omega)
    have OK := Lib.hid ok
    have OK1 := Lib.hid ok1
    clear ok ok1 e1 e2
    go_wp2_with fail
    refine P1.out.mono ?_
    rintro e w2 ⟨a1, c1, rfl, hR1, hK2⟩
    have P2 := Lib.hid (pay_is a1 m1 c1 y w2 m3 r2 hR1.arg hR1.nil OK1.out y0 (by omega) e5 e6)
    clear hR1 P1 e5 e6 OK1
    go_wp2_with fail
    refine P2.out.mono ?_
    rintro e w3 ⟨a2, c2, rfl, hR2, hK3⟩
    have P3 := Lib.hid (pay_is a l cap (x + y) w3 m3 (r1 + r2) (((HA.out.later hK1).later hK2).later hK3) z OK.out (by omega) (by omega) e3 e4)
    clear P2 e3 e4 OK HA
    go_wp2_with fail
    refine P3.out.mono ?_
    rintro e w4 ⟨a3, c3, rfl, hR3, hK4⟩
    have EQ := Lib.hid (itequal_yes m3 a2 a3 m3.length c2 c3 w4 (by omega) rfl (hR2.arg.later hK4) hR3.arg)
    have hK := ((hK1.trans hK2).trans hK3).trans hK4
    clear P3 hR2 hR3 hK1 hK2 hK3 hK4
    go_wp2_with fail
    refine EQ.out.mono ?_
    rintro e w5 ⟨rfl, hK5⟩
    go_wp2
    go_ret
    exact ⟨rfl, hK.trans hK5⟩
  · go_enter Try.func6, Try.ntmps6
    go_wp2_with fail
    refine F0.out.mono ?_
    rintro e w1 ⟨a0, c0, rfl, hR0, hK0⟩
    have hK1 := KA.trans hK0
    clear F0 KA hR0 hK0
    go_wp2_with fail
    refine (skWithin_any _ _ _ (by decide) (by decide)).mono ?_
    rintro e w2 ⟨x, x0, x1, rfl, rfl⟩
    go_wp2_with fail
    refine (skWithin_any _ _ _ (by decide) (by decide)).mono ?_
    rintro e w2 ⟨y, y0, y1, rfl, rfl⟩
    have ep : pyE l x = itE l := by unfold pyE; rw [if_neg er]
    have P1 := Lib.hid (pay_no a l cap x w1 hl (HA.out.later hK1) (by rw [ep]; exact er))
    rw [ep] at P1
    have nb : (itE l != 0) = true := by rw [bne_iff_ne]; exact er
    generalize itE l = q at *
    clear ep er
    go_wp2_with fail
    refine P1.out.mono ?_
    rintro e w2 ⟨rfl, hK2⟩
    go_wp2
    go_ret
    exact ⟨rfl, hK1.trans hK2⟩
end Go.Proofs.Ytdgiljndoeldcaa
