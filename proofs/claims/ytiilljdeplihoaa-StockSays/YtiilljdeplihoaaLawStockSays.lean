/-
  The law StockSays: for all moves it answers true; nothing that was there is turned. No condition but those that each theorem names.
-/
import Derived.Test.YtiilljdeplihoaaPRefC
namespace Go.Proofs.Ytiilljdeplihoaa
open Go.RowKit
set_option linter.unusedVariables false

def RfA (w : World) (s : List Int × List Mv) (e : Ending) (w' : World) : Prop :=
  ∃ au cu av cv, e = .returned (.tuple #[.slice au s.1.length cu, .slice av s.2.length cv]) ∧ JArg eI w' au s.1 ∧ JArg eP w' av s.2 ∧ Kept w w'
theorem rfifo_arg (a : Option Addr) (l : List Mv) (cap : Nat) (w : World) (hA : JArg eP w a l) (ok : MvOk l) :
    Calls Try.prog 12 #[.slice a l.length cap] w (RfA w (ffS l)) := by
  refine (rfifo_yes a l cap w hA ok).mono fun e w' h => ?_
  obtain ⟨u, v, rfl, hU, hV, hK⟩ := h
  obtain ⟨au, cu, rfl, _⟩ := id hU.is
  obtain ⟨av, cv, rfl, _⟩ := id hV.is
  exact ⟨au, cu, av, cv, rfl, hU.arg, hV.arg, hK⟩
def RmA (w : World) (s : List Int × Mv) (e : Ending) (w' : World) : Prop :=
  ∃ au cu, e = .returned (.tuple #[.slice au s.1.length cu, .agg #[.int .i64 s.2.1, .int .i64 s.2.2]]) ∧ JArg eI w' au s.1 ∧ Kept w w'
theorem rmean_arg (a : Option Addr) (l : List Mv) (cap : Nat) (w : World) (hA : JArg eP w a l) (ok : MvOk l) :
    Calls Try.prog 13 #[.slice a l.length cap] w (RmA w (mmS l)) := by
  refine (rmean_yes a l cap w hA ok).mono fun e w' h => ?_
  obtain ⟨u, rfl, hU, hK⟩ := h
  obtain ⟨au, cu, rfl, _⟩ := id hU.is
  exact ⟨au, cu, rfl, hU.arg, hK⟩
set_option maxRecDepth 100000 in
set_option maxHeartbeats 8000000 in
theorem stockSays_no (a : Option Addr) (l : List Mv) (cap : Nat) (w : World) (hA : JArg eP w a l) (hn : l.length ≤ maxLen) (er : skE l ≠ 0) :
    Calls Try.prog 3 #[.slice a l.length cap] w fun e w' => e = .returned (.bool true) ∧ Below w.heap.size w w' := by
  have FN := Lib.hid (fun V (k : Kept w V) => fifo_no a l cap V hn (hA.later k) er)
  have MN := Lib.hid (fun V (k : Kept w V) => mean_no a l cap V hn (hA.later k) er)
  have RN := Lib.hid (fun V (k : Kept w V) => rmoves_any a l cap V hn (hA.later k))
  have ne : (skE l != 0) = true := by simpa using er
  clear hA hn er
  generalize skE l = er at *
  go_enter Try.func3, Try.ntmps3
  go_wp2_with fail
  refine (FN.out w (Kept.refl w)).mono ?_
  rintro e w1 ⟨rfl, hK1⟩
  have K1 := Lib.hid hK1
  clear hK1
  go_wp2_with fail
  refine (MN.out w1 K1.out).mono ?_
  rintro e w2 ⟨rfl, hK2⟩
  have HB := Lib.hid (JBx.new (w := w2) rfl (0, 0) 29)
  have K2 := Lib.hid (K1.out.trans (hK2.alloc lotO))
  clear hK2
  go_wp2_with fail
  refine (RN.out _ K2.out).mono ?_
  rintro e w3 ⟨rfl, hK3⟩
  obtain ⟨b0, b1, b2⟩ := HB.out.later hK3
  have K3 := Lib.hid (K2.out.trans hK3)
  clear hK3
  go_wp2
  go_ret
  exact ⟨by simp, K3.out⟩
set_option maxRecDepth 100000 in
set_option maxHeartbeats 8000000 in
theorem stockSays_yes (a : Option Addr) (l : List Mv) (cap : Nat) (w : World) (hA : JArg eP w a l) (hn : l.length ≤ maxLen) (ok : MvOk l) :
    Calls Try.prog 3 #[.slice a l.length cap] w fun e w' => e = .returned (.bool true) ∧ Below w.heap.size w w' := by
  have f := ffS_ok ok l.length (Nat.le_refl _)
  have m := mmS_ok ok l.length (Nat.le_refl _)
  rw [List.take_length] at f m
  have l40 := ok.len
  have n1 : (ffS l).1.length ≤ 1000 := by have := f.l1; omega
  have n2 : (ffS l).2.length ≤ 1000 := by have := f.l2; omega
  have n3 : (mmS l).1.length ≤ 1000 := by have := m.l1; omega
  have FN := Lib.hid (fun V (k : Kept w V) => fifo_arg a l cap V (hA.later k) ok)
  have MN := Lib.hid (fun V (k : Kept w V) => mean_arg a l cap V (hA.later k) ok)
  have RF := Lib.hid (fun V (k : Kept w V) => rfifo_arg a l cap V (hA.later k) ok)
  have RM := Lib.hid (fun V (k : Kept w V) => rmean_arg a l cap V (hA.later k) ok)
  have RN := Lib.hid (fun V (k : Kept w V) => show Calls Try.prog 11 #[.slice a l.length cap] V fun e w' => e = .returned (.int .i64 0) ∧ Kept V w' from by
    have := rmoves_any a l cap V hn (hA.later k)
    rwa [ok.e] at this)
  clear hA hn ok f m l40
  generalize ffS l = sf at *
  generalize mmS l = sm at *
  obtain ⟨s1, s2⟩ := sf
  obtain ⟨t1, t2⟩ := sm
  simp only at n1 n2 n3
  go_enter Try.func3, Try.ntmps3
  go_wp2_with fail
  refine (FN.out w (Kept.refl w)).mono ?_
  rintro e w1 ⟨ax, cx, al, cl, rfl, hX, hL, _, _, _, hK1⟩
  have HX := Lib.hid hX
  have HL := Lib.hid hL
  have K1 := Lib.hid hK1
  clear hK1 hX hL
  go_wp2_with fail
  refine (MN.out w1 K1.out).mono ?_
  rintro e w2 ⟨ay, cy, rfl, hY, _, _, _, hK2⟩
  have kL := (Kept.refl w2).alloc (.cells #[.int .i64 t2.1, .int .i64 t2.2] 29)
  have HB := Lib.hid (JBx.new (w := w2) rfl t2 29)
  have HX2 := Lib.hid (HX.out.later (hK2.trans kL))
  have HL2 := Lib.hid (HL.out.later (hK2.trans kL))
  have HY2 := Lib.hid (hY.later kL)
  have K2 := Lib.hid (K1.out.trans (hK2.trans kL))
  clear hK2 kL hY
  go_wp2_with fail
  refine (RN.out _ K2.out).mono ?_
  rintro e w3 ⟨rfl, hK3⟩
  have K3 := Lib.hid (K2.out.trans hK3)
  have KB := Lib.hid hK3
  clear hK3
  go_wp2_with fail
  refine (RF.out w3 K3.out).mono ?_
  rintro e w4 ⟨ap, cp, aq, cq, rfl, hP, hQ, hK4⟩
  have HP := Lib.hid hP
  have HQ := Lib.hid hQ
  have K4 := Lib.hid (K3.out.trans hK4)
  have KB4 := Lib.hid (KB.out.trans hK4)
  clear hK4 hP hQ
  go_wp2_with fail
  refine (RM.out w4 K4.out).mono ?_
  rintro e w5 ⟨au, cu, rfl, hU, hK5⟩
  have kM := (Kept.refl w5).alloc (.cells #[.int .i64 t2.1, .int .i64 t2.2] 29)
  have k45 := hK5.trans kM
  have HC := Lib.hid (JBx.new (w := w5) rfl t2 29)
  have HU := Lib.hid (hU.later kM)
  have HP5 := Lib.hid (HP.out.later k45)
  have HQ5 := Lib.hid (HQ.out.later k45)
  have KB5 := Lib.hid (KB4.out.trans k45)
  have K5 := Lib.hid (K4.out.trans k45)
  clear hK5 kM k45 hU
  have E1 := Lib.hid (iequal_yes s1 ax ap s1.length cx cp (w5.alloc (.cells #[.int .i64 t2.1, .int .i64 t2.2] 29)) n1 rfl (HX2.out.later KB5.out) HP5.out)
  go_wp2_with fail
  refine E1.out.mono ?_
  rintro e w6 ⟨rfl, hK6⟩
  have KB6 := Lib.hid (KB5.out.trans hK6)
  have K6 := Lib.hid (K5.out.trans hK6)
  have KC6 := Lib.hid hK6
  clear hK6
  go_wp2_with fail
  refine (lotequal_yes s2 al aq s2.length cl cq w6 n2 rfl (HL2.out.later KB6.out) (HQ5.out.later KC6.out)).mono ?_
  rintro e w7 ⟨rfl, hK7⟩
  have KB7 := Lib.hid (KB6.out.trans hK7)
  have K7 := Lib.hid (K6.out.trans hK7)
  have KC7 := Lib.hid (KC6.out.trans hK7)
  clear hK7
  go_wp2_with fail
  refine (iequal_yes t1 ay au t1.length cy cu w7 n3 rfl (HY2.out.later KB7.out) (HU.out.later KC7.out)).mono ?_
  rintro e w8 ⟨rfl, hK8⟩
  have K8 := Lib.hid (K7.out.trans hK8)
  obtain ⟨b0, b1, b2⟩ := HB.out.later (KB7.out.trans hK8)
  obtain ⟨c0, c1, c2⟩ := HC.out.later (KC7.out.trans hK8)
  clear hK8
  go_wp2
  go_ret
  exact ⟨by simp, K8.out⟩
/-- StockSays, whatever is handed in. -/
theorem stockSays_walk (a : Option Addr) (l : List Mv) (cap : Nat) (w : World) (hA : JArg eP w a l) (hc : l.length ≤ cap) (hm : cap ≤ maxLen) (h0 : a = none → cap = 0) :
    Calls Try.prog 3 #[.slice a l.length cap] w fun e w' => e = .returned (.bool true) ∧ Below w.heap.size w w' := by
  by_cases e : skE l = 0
  · exact stockSays_yes a l cap w hA (by omega) (skE_ok e)
  · exact stockSays_no a l cap w hA (by omega) e
end Go.Proofs.Ytiilljdeplihoaa
