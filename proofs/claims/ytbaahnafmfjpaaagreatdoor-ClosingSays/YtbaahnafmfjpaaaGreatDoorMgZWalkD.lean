import Derived.Test.YtbaahnafmfjpaaaGreatDoorZWalkC
import Derived.Test.YtbaahnafmfjpaaaGreatDoorLawBookSays
/-
  Close, the reference's and the code's, at every input, to a good book. No condition but those that each theorem names.
-/
namespace Go.Proofs.YtbaahnafmfjpaaaGreatDoor
open Go.RowKit
set_option linter.unusedVariables false

/-- The book that Close returns. -/
def clY (b : Bk) (k : ByteArray) (d : Int) (c : ByteArray) : Bk := if clE b k d c = 0 then clV b k d c else noB
theorem clY_small {b : Bk} {k : ByteArray} {d : Int} {c : ByteArray} : (clY b k d c).acs.length ≤ 24 ∧ (clY b k d c).ens.length ≤ 60 ∧ ∀ x ∈ (clY b k d c).ens, x.lns.length ≤ 12 := by
  unfold clY
  by_cases h : clE b k d c = 0
  · rw [if_pos h]
    have g := (Good.post (clE_ok h).2.2.1).1
    exact ⟨g.a24, g.many, g.lines⟩
  · rw [if_neg h]
    exact ⟨Nat.zero_le _, Nat.zero_le _, fun y hy => by cases hy⟩
theorem close_all (q : BkA) (b : Bk) (k : ByteArray) (d : Int) (c : ByteArray) (w : World) (hM : BkM w q b) (hk : k.size ≤ maxLen) (hc : c.size ≤ maxLen) :
    Calls Tryz.prog 4 #[bkV q b, .string k, .int .i64 d, .string c] w (RpAny w (clY b k d c) (clE b k d c)) := by
  by_cases h : clE b k d c = 0
  · have Y : clY b k d c = clV b k d c := by unfold clY; rw [if_pos h]
    rw [Y, h]
    refine (close_yes q b k d c w hM hk hc h).mono fun e w' hh => ?_
    obtain ⟨q', e1, hF, hk⟩ := hh
    exact ⟨q', e1, hF.m, hk⟩
  · have Y : clY b k d c = noB := by unfold clY; rw [if_neg h]
    rw [Y]
    exact (close_no q b k d c w hM hk hc h).mono fun e w' hh => RpAny.no hh
theorem rclose_all (q : BkA) (b : Bk) (k : ByteArray) (d : Int) (c : ByteArray) (w : World) (hM : BkM w q b) (hk : k.size ≤ maxLen) (hc : c.size ≤ maxLen) (gd : Good b) :
    Calls Tryz.prog 8 #[bkV q b, .string k, .int .i64 d, .string c] w (RpAny w (clY b k d c) (clE b k d c)) := by
  have b0 := bkE_iff.2 gd
  have no : ∀ r, clE b k d c = r → r ≠ 0 → Calls Tryz.prog 8 #[bkV q b, .string k, .int .i64 d, .string c] w (BkNo w r) → Calls Tryz.prog 8 #[bkV q b, .string k, .int .i64 d, .string c] w (RpAny w (clY b k d c) (clE b k d c)) := fun r h h0 hc => by
    have Y : clY b k d c = noB := by unfold clY; rw [if_neg (by rw [h]; exact h0)]
    rw [Y, h]
    exact hc.mono fun e w' hh => RpAny.no hh
  cases dy : dyB d
  · have C : ccE b d c = 1 := by unfold ccE; rw [if_pos b0, if_neg (by rw [dy]; simp)]
    exact no 1 (by unfold clE; rw [if_neg (by rw [C]; decide), C]) (by decide) (rclose_day q b k d c w hM hk hc gd dy)
  · cases hh : hasB c b.acs
    · have C : ccE b d c = 4 := by unfold ccE; rw [if_pos b0, if_pos dy, if_neg (by rw [hh]; simp)]
      exact no 4 (by unfold clE; rw [if_neg (by rw [C]; decide), C]) (by decide) (rclose_has q b k d c w hM hk hc gd dy hh)
    · by_cases kv : kiV b.acs c = 2
      · have C : ccE b d c = 0 := by unfold ccE; rw [if_pos b0, if_pos dy, if_pos hh, if_pos kv]
        by_cases nl : clL (baF b d) b.acs = []
        · exact no 4 (by unfold clE; rw [if_pos C, if_pos nl]) (by decide) (rclose_none q b k d c w hM hk hc gd dy hh kv nl)
        · have E : clE b k d c = if poE b (clX b k d c) = 0 then shE (poV b (clX b k d c)) d else poE b (clX b k d c) := by unfold clE; rw [if_pos C, if_neg nl]
          refine rclose_post q b k d c w hM hk hc gd dy hh kv nl _ _ (fun pe => ?_) (fun pe sh => ?_) (fun pe sh => ?_)
          · rw [if_neg pe] at E
            exact ⟨by unfold clY; rw [if_neg (by rw [E]; exact pe)], E⟩
          · have P : poY b (clX b k d c) = poV b (clX b k d c) := by unfold poY; rw [if_pos pe]
            rw [P] at sh
            rw [if_pos pe] at E
            have S : shE (poV b (clX b k d c)) d = 9 := by unfold shE; rw [if_pos (bkE_iff.2 (Good.post pe).1), if_pos dy, if_pos sh]
            rw [S] at E
            exact ⟨by unfold clY; rw [if_neg (by rw [E]; decide)], E⟩
          · have P : poY b (clX b k d c) = poV b (clX b k d c) := by unfold poY; rw [if_pos pe]
            rw [P] at sh
            rw [if_pos pe] at E
            have S : shE (poV b (clX b k d c)) d = 0 := by unfold shE; rw [if_pos (bkE_iff.2 (Good.post pe).1), if_pos dy, if_neg sh]
            rw [S] at E
            exact ⟨by unfold clY; rw [if_pos E, P]; rfl, E⟩
      · have C : ccE b d c = 3 := by unfold ccE; rw [if_pos b0, if_pos dy, if_pos hh, if_neg kv]
        exact no 3 (by unfold clE; rw [if_neg (by rw [C]; decide), C]) (by decide) (rclose_form q b k d c w hM hk hc gd dy hh kv)
end Go.Proofs.YtbaahnafmfjpaaaGreatDoor

/-
  The law ClosingSays: for every book, all keys, days and codes it answers true; nothing that was there is turned. No condition but those that each theorem names.
-/
namespace Go.Proofs.YtbaahnafmfjpaaaGreatDoor
open Go.RowKit
set_option linter.unusedVariables false

theorem told_nil (q : BkA) (b : Bk) (hb : b = noB) (er : Int) (w : World) (h : BkM w q b) :
    Calls Tryz.prog 7 #[bkV q b, .int .i64 er, .agg #[.slice none 0 0, .slice none 0 0, .int .i64 0], .int .i64 er] w fun e w' => e = .returned (.bool true) ∧ Kept w w' := by
  subst hb
  exact told_yes q noA noB er w h (no_m w) (Nat.zero_le _) (Nat.zero_le _) (fun x hx => by cases hx)
set_option maxRecDepth 100000 in
set_option maxHeartbeats 4000000 in
theorem csays_bad (q : BkA) (b : Bk) (k y : ByteArray) (d : Int) (c : ByteArray) (w : World) (hM : BkM w q b) (hk : k.size ≤ maxLen) (hy : y.size ≤ maxLen) (hc : c.size ≤ maxLen) (gd : ¬ bkE b = 0) :
    Calls Tryz.prog 3 #[bkV q b, .string k, .string y, .int .i64 d, .string c] w fun e w' => e = .returned (.bool true) ∧ Below w.heap.size w w' := by
  have HB := Lib.hid ((BBx.new w q b).later (Kept.refl (w.alloc (bkO q b))))
  have hK2 := (Kept.refl w).alloc (bkO q b)
  have HM := Lib.hid (hM.later hK2)
  have C1 : clE b k d c = bkE b := by
    have h : ccE b d c = bkE b := by unfold ccE; rw [if_neg gd]
    unfold clE; rw [if_neg (by rw [h]; exact gd), h]
  have C2 : clY b k d c = noB := by unfold clY; rw [if_neg (by rw [C1]; exact gd)]
  have U1 : unE b k y d = bkE b := by
    have h : gtE b k = bkE b := by unfold gtE; rw [if_neg gd]
    unfold unE; rw [if_neg (by rw [h]; exact gd), h]
  have U2 : unY b k y d = noB := by unfold unY; rw [if_neg (by rw [U1]; exact gd)]
  obtain ⟨o, ho⟩ : ∃ o : Bk, o = noB := ⟨_, rfl⟩
  have CC := Lib.hid (fun V (h : BkM V q b) => show Calls Tryz.prog 4 #[bkV q b, .string k, .int .i64 d, .string c] V (RpAny V o (bkE b)) from by
    have := close_all q b k d c V h hk hc
    rwa [C1, C2, ← ho] at this)
  have CU := Lib.hid (fun V (h : BkM V q b) => show Calls Tryz.prog 5 #[bkV q b, .string k, .string y, .int .i64 d] V (RpAny V o (bkE b)) from by
    have := undo_all q b k y d V h hy
    rwa [U1, U2, ← ho] at this)
  have RB := Lib.hid (fun V (h : BkM V q b) => rbook_any q b V h)
  have TN := Lib.hid (fun (q : BkA) (er : Int) V (h : BkM V q o) => told_nil q o ho er V h)
  have ne1 : (bkE b != 0) = true := by simpa using gd
  generalize hW : w.alloc (bkO q b) = W at *
  have HW := Lib.hid hW
  have HK := Lib.hid hK2
  clear hM hW hK2 C1 C2 U1 U2 gd ho
  generalize bkE b = ek at *
  obtain ⟨b0, b1, b2, b3⟩ := HB.out
  go_enter Tryz.func3, Tryz.ntmps3
  go_wp2_with fail
  rw [HW.out]
  refine (CC.out W HM.out).mono ?_
  rintro e w1 ⟨qx, rfl, hMx, hK1⟩
  have kx := (Kept.refl w1).alloc (bkO qx o)
  have HX := Lib.hid (BBx.new w1 qx o)
  have HMX := Lib.hid (hMx.later kx)
  have K2 := Lib.hid (hK1.trans kx)
  clear b0 b1 b2 b3
  obtain ⟨b0, b1, b2, b3⟩ := HB.out.later hK1
  have UC := Lib.hid (CU.out (w1.alloc (bkO qx o)) (HM.out.later K2.out))
  clear hK1 hMx kx
  go_wp2_with fail
  refine UC.out.mono ?_
  rintro e w2 ⟨qz, rfl, hMz, hK2⟩
  have kz := (Kept.refl w2).alloc (bkO qz o)
  have HX2 := Lib.hid (HX.out.later (hK2.trans kz))
  have HMX2 := Lib.hid (HMX.out.later (hK2.trans kz))
  have HZ := Lib.hid (BBx.new w2 qz o)
  have HMZ := Lib.hid (hMz.later kz)
  have K3 := Lib.hid (K2.out.trans (hK2.trans kz))
  clear b0 b1 b2 b3
  obtain ⟨b0, b1, b2, b3⟩ := HB.out.later (K2.out.trans hK2)
  have RC := Lib.hid (RB.out (w2.alloc (bkO qz o)) (HM.out.later K3.out))
  clear hK2 hMz kz
  go_wp2_with fail
  refine RC.out.mono ?_
  rintro e w3 ⟨rfl, hK3⟩
  have K4 := Lib.hid (K3.out.trans hK3)
  have TX := Lib.hid (TN.out qx ek w3 (HMX2.out.later hK3))
  have HZ3 := Lib.hid (HZ.out.later hK3)
  have HMZ3 := Lib.hid (HMZ.out.later hK3)
  clear b0 b1 b2 b3
  obtain ⟨x0, x1, x2, x3⟩ := HX2.out.later hK3
  clear hK3
  go_wp2_with fail
  refine TX.out.mono ?_
  rintro e w4 ⟨rfl, hK4⟩
  have K5 := Lib.hid (K4.out.trans hK4)
  have TZ := Lib.hid (TN.out qz ek w4 (HMZ3.out.later hK4))
  clear x0 x1 x2 x3
  obtain ⟨z0, z1, z2, z3⟩ := HZ3.out.later hK4
  clear hK4
  go_wp2_with fail
  refine TZ.out.mono ?_
  rintro e w5 ⟨rfl, hK5⟩
  have K6 := Lib.hid (K5.out.trans hK5)
  clear z0 z1 z2 z3 hK5
  go_wp2
  go_ret
  exact ⟨rfl, HK.out.trans K6.out⟩
set_option maxRecDepth 100000 in
set_option maxHeartbeats 4000000 in
theorem csays_good (q : BkA) (b : Bk) (k y : ByteArray) (d : Int) (c : ByteArray) (w : World) (hM : BkM w q b) (hk : k.size ≤ maxLen) (hy : y.size ≤ maxLen) (hc : c.size ≤ maxLen) (gd : Good b) :
    Calls Tryz.prog 3 #[bkV q b, .string k, .string y, .int .i64 d, .string c] w fun e w' => e = .returned (.bool true) ∧ Below w.heap.size w w' := by
  have HB := Lib.hid ((BBx.new w q b).later (Kept.refl (w.alloc (bkO q b))))
  have hK2 := (Kept.refl w).alloc (bkO q b)
  have HM := Lib.hid (hM.later hK2)
  obtain ⟨s1, s2, s3⟩ := clY_small (b := b) (k := k) (d := d) (c := c)
  have SM := Lib.hid s3
  obtain ⟨t1, t2, t3⟩ := unY_small (b := b) (k := k) (y := y) (d := d)
  have TM := Lib.hid t3
  have CC := Lib.hid (fun V (h : BkM V q b) => close_all q b k d c V h hk hc)
  have CU := Lib.hid (fun V (h : BkM V q b) => undo_all q b k y d V h hy)
  have RC := Lib.hid (fun V (h : BkM V q b) => rclose_all q b k d c V h hk hc gd)
  have RU := Lib.hid (fun V (h : BkM V q b) => rundo_all q b k y d V h hy gd)
  have RB := Lib.hid (fun V (h : BkM V q b) => show Calls Tryz.prog 6 #[bkV q b] V fun e w' => e = .returned (.int .i64 0) ∧ Kept V w' from by
    have := rbook_any q b V h
    rwa [bkE_iff.2 gd] at this)
  generalize hW : w.alloc (bkO q b) = W at *
  have HW := Lib.hid hW
  have HK := Lib.hid hK2
  clear hM hW hK2 gd s3 t3
  generalize clY b k d c = x at *
  generalize clE b k d c = ex at *
  generalize unY b k y d = z at *
  generalize unE b k y d = ez at *
  obtain ⟨b0, b1, b2, b3⟩ := HB.out
  go_enter Tryz.func3, Tryz.ntmps3
  go_wp2_with fail
  rw [HW.out]
  refine (CC.out W HM.out).mono ?_
  rintro e w1 ⟨qx, rfl, hMx, hK1⟩
  have kx := (Kept.refl w1).alloc (bkO qx x)
  have HX := Lib.hid (BBx.new w1 qx x)
  have HMX := Lib.hid (hMx.later kx)
  have K2 := Lib.hid (hK1.trans kx)
  clear b0 b1 b2 b3
  obtain ⟨b0, b1, b2, b3⟩ := HB.out.later hK1
  have UC := Lib.hid (CU.out (w1.alloc (bkO qx x)) (HM.out.later K2.out))
  clear hK1 hMx kx
  go_wp2_with fail
  refine UC.out.mono ?_
  rintro e w2 ⟨qz, rfl, hMz, hK2⟩
  have kz := (Kept.refl w2).alloc (bkO qz z)
  have HX2 := Lib.hid (HX.out.later (hK2.trans kz))
  have HMX2 := Lib.hid (HMX.out.later (hK2.trans kz))
  have HZ := Lib.hid (BBx.new w2 qz z)
  have HMZ := Lib.hid (hMz.later kz)
  have K3 := Lib.hid (K2.out.trans (hK2.trans kz))
  clear b0 b1 b2 b3
  obtain ⟨b0, b1, b2, b3⟩ := HB.out.later (K2.out.trans hK2)
  have BC := Lib.hid (RB.out (w2.alloc (bkO qz z)) (HM.out.later K3.out))
  clear hK2 hMz kz
  go_wp2_with fail
  refine BC.out.mono ?_
  rintro e w3 ⟨rfl, hK3⟩
  have K4 := Lib.hid (K3.out.trans hK3)
  have KX := Lib.hid hK3
  clear b0 b1 b2 b3
  obtain ⟨b0, b1, b2, b3⟩ := HB.out.later K4.out
  clear hK3
  go_wp2_with fail
  refine (RC.out w3 (HM.out.later K4.out)).mono ?_
  rintro e w4 ⟨qp, rfl, hMp, hK4⟩
  have kp := (Kept.refl w4).alloc (bkO qp x)
  have HP := Lib.hid (BBx.new w4 qp x)
  have HMP := Lib.hid (hMp.later kp)
  have K5 := Lib.hid (K4.out.trans (hK4.trans kp))
  have KX5 := Lib.hid (KX.out.trans (hK4.trans kp))
  clear b0 b1 b2 b3
  obtain ⟨b0, b1, b2, b3⟩ := HB.out.later (K4.out.trans hK4)
  have UR := Lib.hid (RU.out (w4.alloc (bkO qp x)) (HM.out.later K5.out))
  clear hK4 hMp kp
  go_wp2_with fail
  refine UR.out.mono ?_
  rintro e w5 ⟨qr, rfl, hMr, hK5⟩
  have kr := (Kept.refl w5).alloc (bkO qr z)
  have HR := Lib.hid (BBx.new w5 qr z)
  have HMR := Lib.hid (hMr.later kr)
  have K6 := Lib.hid (K5.out.trans (hK5.trans kr))
  have K55 := Lib.hid (hK5)
  have KX6 := Lib.hid (KX5.out.trans (hK5.trans kr))
  have TX := Lib.hid (told_yes qx qp x ex (w5.alloc (bkO qr z)) (HMX2.out.later KX6.out) (HMP.out.later (hK5.trans kr)) s1 s2 SM.out)
  clear b0 b1 b2 b3
  obtain ⟨x0, x1, x2, x3⟩ := HX2.out.later (KX5.out.trans hK5)
  obtain ⟨p0, p1, p2, p3⟩ := HP.out.later hK5
  clear hK5 hMr kr
  go_wp2_with fail
  refine TX.out.mono ?_
  rintro e w6 ⟨rfl, hK6⟩
  have K7 := Lib.hid (K6.out.trans hK6)
  have TZ := Lib.hid (told_yes qz qr z ez w6 (HMZ.out.later (KX6.out.trans hK6)) (HMR.out.later hK6) t1 t2 TM.out)
  clear x0 x1 x2 x3 p0 p1 p2 p3
  obtain ⟨z0, z1, z2, z3⟩ := HZ.out.later (KX6.out.trans hK6)
  obtain ⟨r0, r1, r2, r3⟩ := HR.out.later hK6
  clear hK6
  go_wp2_with fail
  refine TZ.out.mono ?_
  rintro e w7 ⟨rfl, hK7⟩
  have K8 := Lib.hid (K7.out.trans hK7)
  clear z0 z1 z2 z3 r0 r1 r2 r3 hK7
  go_wp2
  go_ret
  exact ⟨rfl, HK.out.trans K8.out⟩
/-- ClosingSays, whatever is handed in. -/
theorem closingSays_walk (q : BkA) (b : Bk) (k : ByteArray) (y : ByteArray) (d : Int) (c : ByteArray) (w : World) (hM : BkM w q b) (hk : k.size ≤ maxLen) (hy : y.size ≤ maxLen) (hc : c.size ≤ maxLen) :
    Calls Tryz.prog 3 #[bkV q b, .string k, .string y, .int .i64 d, .string c] w fun e w' => e = .returned (.bool true) ∧ Below w.heap.size w w' := by
  by_cases gd : bkE b = 0
  · exact csays_good q b k y d c w hM hk hy hc (bkE_iff.1 gd)
  · exact csays_bad q b k y d c w hM hk hy hc gd
end Go.Proofs.YtbaahnafmfjpaaaGreatDoor
