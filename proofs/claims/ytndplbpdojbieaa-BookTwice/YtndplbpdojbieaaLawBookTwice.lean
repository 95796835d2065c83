/-
  The walk of talkeep.BookTwice: it returns true at every input. No condition but those that each theorem names.
-/
import Derived.Test.YtndplbpdojbieaaHWalkH
namespace Go.Proofs.Ytndplbpdojbieaa
open Go.RowKit
set_option linter.unusedVariables false

theorem EtYes.x {w w' : World} {x y : Et} {e : Ending} (h : x = y) (k : EtYes w x e w') : EtYes w y e w' := h ▸ k
set_option maxRecDepth 100000 in
set_option maxHeartbeats 4000000 in
theorem bookTwice_walk (q : BkA) (b : Bk) (k : ByteArray) (d : Int) (a : Option Addr) (l : List Pr) (cap : Nat) (w : World) (hM : BkM w q b) (hk : k.size ≤ maxLen) (hA : PArg w a l) (hs : Shortish l) (hn : l.length ≤ maxLen) (hc : l.length ≤ cap) (hcm : cap ≤ maxLen) :
    Calls Try.prog 3 #[bkV q b, enV k d a l.length cap] w fun e w' => e = .returned (.bool true) ∧ Below w.heap.size w w' := by
  obtain ⟨x, hx⟩ : ∃ x : Et, x = ⟨k, d, l⟩ := ⟨_, rfl⟩
  have hE : EtM w x a cap := by rw [hx]; exact ⟨hk, hn, hA, hs, hc, hcm⟩
  have e1 : k = x.key := by rw [hx]
  have e2 : d = x.day := by rw [hx]
  have e3 : l = x.lns := by rw [hx]
  subst e1 e2 e3
  clear hx hk hA hs hn hc hcm
  have HB := Lib.hid ((BBx.new w q b).later ((Kept.refl (w.alloc (bkO q b))).alloc (enO x a cap)))
  have HX := Lib.hid (EBx.newAt (w := w.alloc (bkO q b)) (p := w.heap.size + 1) (by simp) x.key x.day (.slice a x.lns.length cap) 28)
  have hK2 := ((Kept.refl w).alloc (bkO q b)).alloc (enO x a cap)
  have HM := Lib.hid (hM.later hK2)
  have HE := Lib.hid (hE.later hK2)
  generalize hW : (w.alloc (bkO q b)).alloc (enO x a cap) = W at *
  have HW := Lib.hid hW
  have HK := Lib.hid hK2
  clear hM hE hW hK2
  go_enter Try.func3, Try.ntmps3
  go_wp2_with fail
  rw [HW.out]
  refine (begun_any W).mono ?_
  rintro e w1 ⟨rfl, hK1⟩
  obtain ⟨b0, b1, b2, b3⟩ := HB.out.later hK1
  obtain ⟨x0, x1, x2, x3⟩ := HX.out.later hK1
  go_wp2_with fail
  clear b0 b1 b2 b3 x0 x1 x2 x3
  by_cases ok : poE b x = 0
  · refine (post_yes q b x a cap w1 (HM.out.later hK1) (HE.out.later hK1) ok).mono ?_
    have gd := (Good.post ok).1
    have mem := (Good.post ok).2.1
    rintro e w2 ⟨q2, rfl, hF, hK3⟩
    generalize poV b x = y at *
    clear ok
    have hK4 := hK1.trans hK3
    have kY := (Kept.refl w2).alloc (bkO q2 y)
    have HY := Lib.hid (BBx.new w2 q2 y)
    have HMY := Lib.hid (hF.m.later kY)
    have GD := Lib.hid gd
    obtain ⟨ok3, ov3⟩ := poE_mem gd mem
    have PY := Lib.hid (post_yes q2 y x a cap (w2.alloc (bkO q2 y)) HMY.out (HE.out.later (hK4.trans kY)) ok3)
    rw [ov3] at PY
    have hky : kyI x.key y.ens < y.ens.length := kyI_lt.2 ⟨x, mem, rfl⟩
    have hyx : y.ens[kyI x.key y.ens] = x := gd.key_inj (List.getElem_mem _) mem (kyI_at hky)
    have GY := Lib.hid (fun V (h : BkM V q2 y) => (get_yes q2 y x.key V h gd _ rfl hky).mono fun e w' h => EtYes.x hyx h)
    have L12 := Lib.hid ((enE_ok (gd.each x mem).1).2.2.1)
    clear hF gd mem ok3 ov3 hky hyx
    have hK5 := hK4.trans kY
    have s2 : w.heap.size + 1 < w2.heap.size := (HX.out.later hK4).lt
    obtain ⟨x0, x1, x2, x3⟩ := HX.out.later hK4
    generalize hw3 : w2.alloc (bkO q2 y) = w3 at *
    have HW3 := Lib.hid hw3
    clear hw3 kY
    go_wp2_with fail
    rw [HW3.out]
    refine PY.out.mono ?_
    rintro e w4 ⟨q4, rfl, hF4, hK6⟩
    have kZ := (Kept.refl w4).alloc (bkO q4 y)
    have HZ := Lib.hid (BBx.new w4 q4 y)
    have HMZ := Lib.hid (hF4.m.later kZ)
    have hK7 := hK5.trans (hK6.trans kZ)
    have HMY7 := Lib.hid (HMY.out.later (hK6.trans kZ))
    obtain ⟨y0, y1, y2, y3⟩ := HY.out.later hK6
    clear x0 x1 x2 x3
    obtain ⟨x0, x1, x2, x3⟩ := HX.out.later (hK5.trans hK6)
    generalize hw5 : w4.alloc (bkO q4 y) = w5 at *
    have HW5 := Lib.hid hw5
    have GYR := Lib.hid (GY.out w5 HMY7.out)
    have KY5 := Lib.hid (hK6.trans kZ)
    clear hw5 hF4 kZ hK6
    go_wp2_with fail
    rw [HW5.out]
    refine GYR.out.mono ?_
    rintro e w6 ⟨p6, hp6, rfl, hO6, hK8⟩
    have kO := (Kept.refl w6).alloc (.cells #[.string x.key, .int .i64 x.day, .slice (some ⟨p6, 0, none⟩) x.lns.length x.lns.length] 28)
    have HO := Lib.hid (EBx.new w6 x.key x.day (.slice (some ⟨p6, 0, none⟩) x.lns.length x.lns.length) 28)
    have HOP := Lib.hid (hO6.later kO)
    obtain ⟨z0, z1, z2, z3⟩ := HZ.out.later hK8
    clear y0 y1 y2 y3 x0 x1 x2 x3
    obtain ⟨y0, y1, y2, y3⟩ := HY.out.later (KY5.out.trans hK8)
    obtain ⟨x0, x1, x2, x3⟩ := HX.out.later (hK7.trans hK8)
    have K9 := Lib.hid (hK8.trans kO)
    generalize hw7 : w6.alloc (.cells #[.string x.key, .int .i64 x.day, .slice (some ⟨p6, 0, none⟩) x.lns.length x.lns.length] 28) = w7 at *
    have HW7 := Lib.hid hw7
    clear hw7 hO6 kO hK8
    have SB := Lib.hid (sbook_yes q4 q2 y w7 (HMZ.out.later K9.out) (HMY7.out.later K9.out) GD.out.a24 GD.out.many GD.out.lines)
    go_wp2_with fail
    rw [HW7.out]
    refine SB.out.mono ?_
    rintro e w8 ⟨rfl, hK10⟩
    clear z0 z1 z2 z3 y0 y1 y2 y3 x0 x1 x2 x3
    obtain ⟨o0, o1, o2, o3⟩ := HO.out.later hK10
    obtain ⟨x0, x1, x2, x3⟩ := HX.out.later (hK7.trans (K9.out.trans hK10))
    have SA := Lib.hid (same_yes x.key x.day x.lns (some ⟨p6, 0, none⟩) a x.lns.length x.lns.length cap w8 (by have := L12.out; omega) rfl (HOP.out.later hK10).parg (HE.out.later (hK7.trans (K9.out.trans hK10))).lns)
    go_wp2_with fail
    refine SA.out.mono ?_
    rintro e w9 ⟨rfl, hK11⟩
    clear o0 o1 o2 o3 x0 x1 x2 x3
    obtain ⟨y0, y1, y2, y3⟩ := HY.out.later (KY5.out.trans (K9.out.trans (hK10.trans hK11)))
    have CK := Lib.hid (check_any q2 y w9 (HMY.out.later (KY5.out.trans (K9.out.trans (hK10.trans hK11)))))
    rw [bkE_iff.2 GD.out] at CK
    go_wp2_with fail
    refine CK.out.mono ?_
    rintro e w10 ⟨rfl, hK12⟩
    go_wp2
    go_ret
    exact ⟨rfl, HK.out.trans (hK7.trans (K9.out.trans (hK10.trans (hK11.trans hK12))))⟩
  · refine (post_no q b x a cap w1 (HM.out.later hK1) (HE.out.later hK1) ok).mono ?_
    rintro e w2 ⟨rfl, hK3⟩
    have hne : (poE b x != 0) = true := by simpa using ok
    clear ok
    generalize poE b x = ek at *
    go_wp2
    go_ret
    exact ⟨rfl, (HK.out.trans (hK1.trans hK3)).alloc _⟩
end Go.Proofs.Ytndplbpdojbieaa
