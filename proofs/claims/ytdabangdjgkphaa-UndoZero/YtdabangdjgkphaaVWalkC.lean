/-
  What package trial's Profit and Sheet return. No condition but those that each theorem names.
-/
import Derived.Test.YtdabangdjgkphaaVWalkB
namespace Go.Proofs.Ytdabangdjgkphaa
open Go.RowKit
set_option linter.unusedVariables false

/-- P40: the profit. -/
def prV (b : Bk) (f t : Int) : Int := -(kinS b.acs 3 f t b.ens + kinS b.acs 4 f t b.ens)
def PrPost (w : World) (n er : Int) (e : Ending) (w' : World) : Prop := e = .returned (.tuple #[.int .i64 n, .int .i64 er]) ∧ Kept w w'
set_option maxHeartbeats 2000000 in
theorem profit_no (q : BkA) (b : Bk) (f t : Int) (w : World) (hM : BkM w q b) (er : tcE b f t ≠ 0) :
    Calls Try.prog 14 #[bkV q b, .int .i64 f, .int .i64 t] w (PrPost w 0 (tcE b f t)) := by
  have hK2 := (Kept.refl w).alloc (bkO q b)
  have HB := Lib.hid (BBx.new w q b)
  have CK := Lib.hid (tcheck_any q b f t _ (hM.later hK2))
  generalize hW : w.alloc (bkO q b) = W at HB CK hK2
  have HW := Lib.hid hW
  have HK := Lib.hid hK2
  have h2 : (tcE b f t != 0) = true := by simpa using er
  clear hM hW hK2 er
  generalize tcE b f t = ek at *
  obtain ⟨b0, b1, b2, b3⟩ := HB.out
  go_enter Try.func14, Try.ntmps14
  go_wp2_with fail
  rw [HW.out]
  refine CK.out.mono ?_
  rintro e w1 ⟨rfl, hK1⟩
  go_wp2
  go_ret2
  exact ⟨rfl, HK.out.trans hK1⟩
set_option maxHeartbeats 2000000 in
theorem profit_yes (q : BkA) (b : Bk) (f t : Int) (w : World) (hM : BkM w q b) (ok : tcE b f t = 0) :
    Calls Try.prog 14 #[bkV q b, .int .i64 f, .int .i64 t] w (PrPost w (prV b f t) 0) := by
  have gd := (tcE_ok ok).1
  have hK2 := (Kept.refl w).alloc (bkO q b)
  have HB := Lib.hid (BBx.new w q b)
  have HM := Lib.hid (hM.later hK2)
  have CK := Lib.hid (tcheck_any q b f t _ (hM.later hK2))
  rw [ok] at CK
  have TT := Lib.hid (fun V (h : BkM V q b) => totals_any q b f t V h gd)
  have FIN := Lib.hid (show prV b f t = -(kinS b.acs 3 f t b.ens + kinS b.acs 4 f t b.ens) from rfl)
  obtain ⟨s1, s2⟩ := gd.kbd 3 f t
  obtain ⟨z1, z2⟩ := gd.kbd 4 f t
  generalize hW : w.alloc (bkO q b) = W at HB CK hK2 HM
  have HW := Lib.hid hW
  have HK := Lib.hid hK2
  clear hM hW hK2 ok gd
  obtain ⟨b0, b1, b2, b3⟩ := HB.out
  go_enter Try.func14, Try.ntmps14
  go_wp2_with fail
  rw [HW.out]
  refine CK.out.mono ?_
  rintro e w1 ⟨rfl, hK1⟩
  clear b0 b1 b2 b3
  obtain ⟨b0, b1, b2, b3⟩ := HB.out.later hK1
  go_wp2_with fail
  refine (TT.out w1 (HM.out.later hK1)).mono ?_
  rintro e w2 ⟨rfl, hK2⟩
  generalize kinS b.acs 0 f t b.ens = k0 at *
  generalize kinS b.acs 1 f t b.ens = k1 at *
  generalize kinS b.acs 2 f t b.ens = k2 at *
  generalize kinS b.acs 3 f t b.ens = k3 at *
  generalize kinS b.acs 4 f t b.ens = k4 at *
  have w1' : IntKind.i64.wrap (k3 + k4) = k3 + k4 := IntWalk.i64_in _ (by omega)
  have w2' : IntKind.i64.wrap (-(k3 + k4)) = -(k3 + k4) := IntWalk.i64_in _ (by omega)
  go_wp2
  go_ret2
  exact ⟨by rw [FIN.out]; rfl, (HK.out.trans (hK1.trans hK2)).alloc _⟩
/-- P41: four answers. -/
def ShPost (w : World) (x y z er : Int) (e : Ending) (w' : World) : Prop := e = .returned (.tuple #[.int .i64 x, .int .i64 y, .int .i64 z, .int .i64 er]) ∧ Kept w w'
set_option maxHeartbeats 2000000 in
theorem sheet_no (q : BkA) (b : Bk) (d : Int) (w : World) (hM : BkM w q b) (er : tcE b d d ≠ 0) :
    Calls Try.prog 13 #[bkV q b, .int .i64 d] w (ShPost w 0 0 0 (tcE b d d)) := by
  have hK2 := (Kept.refl w).alloc (bkO q b)
  have HB := Lib.hid (BBx.new w q b)
  have CK := Lib.hid (tcheck_any q b d d _ (hM.later hK2))
  generalize hW : w.alloc (bkO q b) = W at HB CK hK2
  have HW := Lib.hid hW
  have HK := Lib.hid hK2
  have h2 : (tcE b d d != 0) = true := by simpa using er
  clear hM hW hK2 er
  generalize tcE b d d = ek at *
  obtain ⟨b0, b1, b2, b3⟩ := HB.out
  go_enter Try.func13, Try.ntmps13
  go_wp2_with fail
  rw [HW.out]
  refine CK.out.mono ?_
  rintro e w1 ⟨rfl, hK1⟩
  go_wp2
  exact bodyPost_ret (v := .tuple #[.int .i64 0, .int .i64 0, .int .i64 0, .int .i64 ek]) (by simp [results, Try.results13, go_sem]) rfl ⟨rfl, HK.out.trans hK1⟩
set_option maxHeartbeats 2000000 in
theorem sheet_yes (q : BkA) (b : Bk) (d : Int) (w : World) (hM : BkM w q b) (ok : tcE b d d = 0) :
    Calls Try.prog 13 #[bkV q b, .int .i64 d] w (ShPost w (kinS b.acs 0 0 d b.ens) (-(kinS b.acs 1 0 d b.ens)) (-(kinS b.acs 2 0 d b.ens)) 0) := by
  have gd := (tcE_ok ok).1
  have hK2 := (Kept.refl w).alloc (bkO q b)
  have HB := Lib.hid (BBx.new w q b)
  have HM := Lib.hid (hM.later hK2)
  have CK := Lib.hid (tcheck_any q b d d _ (hM.later hK2))
  rw [ok] at CK
  have TT := Lib.hid (fun V (h : BkM V q b) => totals_any q b 0 d V h gd)
  obtain ⟨s1, s2⟩ := gd.kbd 1 0 d
  obtain ⟨z1, z2⟩ := gd.kbd 2 0 d
  generalize hW : w.alloc (bkO q b) = W at HB CK hK2 HM
  have HW := Lib.hid hW
  have HK := Lib.hid hK2
  clear hM hW hK2 ok gd
  obtain ⟨b0, b1, b2, b3⟩ := HB.out
  go_enter Try.func13, Try.ntmps13
  go_wp2_with fail
  rw [HW.out]
  refine CK.out.mono ?_
  rintro e w1 ⟨rfl, hK1⟩
  clear b0 b1 b2 b3
  obtain ⟨b0, b1, b2, b3⟩ := HB.out.later hK1
  go_wp2_with fail
  refine (TT.out w1 (HM.out.later hK1)).mono ?_
  rintro e w2 ⟨rfl, hK2⟩
  generalize kinS b.acs 0 0 d b.ens = k0 at *
  generalize kinS b.acs 1 0 d b.ens = k1 at *
  generalize kinS b.acs 2 0 d b.ens = k2 at *
  generalize kinS b.acs 3 0 d b.ens = k3 at *
  generalize kinS b.acs 4 0 d b.ens = k4 at *
  have w1' : IntKind.i64.wrap (-k1) = -k1 := IntWalk.i64_in _ (by omega)
  have w2' : IntKind.i64.wrap (-k2) = -k2 := IntWalk.i64_in _ (by omega)
  go_wp2_with fail
  go_quiet (fail)
  go_wp2
  exact bodyPost_ret (v := .tuple #[.int .i64 k0, .int .i64 (-k1), .int .i64 (-k2), .int .i64 0]) (by simp [results, Try.results13, go_sem]) rfl ⟨rfl, ((HK.out.trans (hK1.trans hK2)).alloc _).drewN _⟩
end Go.Proofs.Ytdabangdjgkphaa
