/-
  The walk of talkeep.BookSteps: it returns true at every input. No condition but those that each theorem names.
-/
import Derived.Test.YtndplbpdojbieaaHWalkH
namespace Go.Proofs.Ytndplbpdojbieaa
open Go.RowKit
set_option linter.unusedVariables false

set_option maxHeartbeats 1000000 in
theorem stclo_any (bx : Nat) (d : Int) (x : Et) (a : Option Addr) (n cap : Nat) (w : World) (hd : 0 ≤ d) (hd2 : d ≤ 292193) (hB : IBx w bx d) :
    Calls Try.prog 24 #[enV x.key x.day a n cap, .pointer (some ⟨bx, 0, none⟩)] w fun e w' => e = .returned (.bool (x.day == d + 1)) ∧ Kept w w' := by
  have hK := (Kept.refl w).alloc (.cells #[.string x.key, .int .i64 x.day, .slice a n cap] 28)
  obtain ⟨b0, b1⟩ := hB.later hK
  obtain ⟨b2, _⟩ := hB
  go_enter Try.func24, Try.ntmps24
  go_wp2
  go_ret
  exact ⟨rfl, hK⟩
abbrev fnSt (bx : Nat) : Value := .func (.func 24) #[] #[.pointer (some ⟨bx, 0, none⟩)]
theorem eany_snoc {P : Et → Bool} {l : List Et} {k : Nat} (h : k < l.length) (a : (l.take k).any P = false) (b : P l[k] = false) : (l.take (k + 1)).any P = false := by
  rw [List.take_succ_eq_append_getElem h, List.any_append, a]; simp [b]
theorem eany_at {P : Et → Bool} {l : List Et} {k : Nat} (h : k < l.length) (b : P l[k] = true) : l.any P = true := by
  rw [List.any_eq_true]; exact ⟨_, List.getElem_mem _, b⟩
set_option maxHeartbeats 2000000 in
theorem stidx_any (bx : Nat) (d : Int) (l : List Et) (a : Option Addr) (cap : Nat) (w : World) (hn : l.length ≤ 1000) (hd : 0 ≤ d) (hd2 : d ≤ 292193) (hA : EArg w a l) (hB : IBx w bx d) :
    Calls Try.prog 44 #[.slice a l.length cap, fnSt bx] w (PlaceK (l.any fun x => x.day == d + 1) w) := by
  have HA := Lib.hid hA
  have HB := Lib.hid hB
  clear hA hB
  go_enter Try.func44, Try.ntmps44
  go_wp2
  go_loopw [8] (fun i wr => ∃ k : Nat, k ≤ l.length ∧ i = .int .i64 k ∧ Hid ((l.take k).any (fun x => x.day == d + 1) = false) ∧ Kept w wr) (fun i _ => (l.length - intOf i).toNat)
  case atStart => exact ⟨0, by omega, rfl, Lib.hid rfl, Kept.refl _⟩
  case round =>
    obtain ⟨k, hk, rfl, HK, hK⟩ := hrel
    by_cases hlt : k < l.length
    · obtain ⟨p, off, rfl, hp⟩ := (HA.out.later hK).at hlt
      obtain ⟨a', cap', c0, c1, c2, _, _, _⟩ := hp.at k hlt
      clear hp
      have NX := Lib.hid (fun hc => eany_snoc (P := fun x : Et => x.day == d + 1) hlt HK.out hc)
      have NY := Lib.hid (fun hc => eany_at (P := fun x : Et => x.day == d + 1) hlt hc)
      generalize l[k] = y at *
      cases hc : (y.day == d + 1)
      · have HN := Lib.hid (NX.out hc)
        have HC := Lib.hid hc
        clear hc
        go_wp2_with fail
        refine (stclo_any bx d y _ _ _ _ hd hd2 (HB.out.later hK)).mono ?_
        rintro e w1 ⟨rfl, hK1⟩
        rw [HC.out]
        have hK2 := hK.trans hK1
        clear hK hK1 c0 c1 c2
        go_wp2
        go_roundw
        case rel => exact ⟨k + 1, by omega, by go_num, HN, hK2⟩
        case measure => simp [intOf]; omega
      · have HN := Lib.hid (NY.out hc)
        have HC := Lib.hid hc
        clear hc
        go_wp2_with fail
        refine (stclo_any bx d y _ _ _ _ hd hd2 (HB.out.later hK)).mono ?_
        rintro e w1 ⟨rfl, hK1⟩
        rw [HC.out]
        have hK2 := hK.trans hK1
        clear hK hK1 c0 c1 c2
        go_wp2
        go_ret
        exact ⟨k, rfl, by rw [HN.out]; simp, hK2⟩
    · obtain rfl : k = l.length := by omega
      clear hlt
      have HN := Lib.hid (show (l.any fun x => x.day == d + 1) = false by have := HK.out; rw [List.take_length] at this; exact this)
      go_wp2
      go_ret
      exact ⟨-1, rfl, by rw [HN.out]; rfl, hK⟩
set_option maxHeartbeats 1000000 in
theorem sthas_any (bx : Nat) (d : Int) (l : List Et) (a : Option Addr) (cap : Nat) (w : World) (hn : l.length ≤ 1000) (hd : 0 ≤ d) (hd2 : d ≤ 292193) (hA : EArg w a l) (hB : IBx w bx d) :
    Calls Try.prog 23 #[.slice a l.length cap, fnSt bx] w fun e w' => e = .returned (.bool (l.any fun x => x.day == d + 1)) ∧ Kept w w' := by
  have HX := Lib.hid (stidx_any bx d l a cap w hn hd hd2 hA hB)
  clear hA hB
  go_enter Try.func23, Try.ntmps23
  go_wp2_with fail
  refine HX.out.mono ?_
  rintro e w1 ⟨n, rfl, hb, hK⟩
  have HB := Lib.hid hb
  clear hb
  go_wp2
  go_ret
  exact ⟨ret_bool HB.out, hK⟩
theorem bal_step {c : ByteArray} {d : Int} {l : List Et} (h : (l.any fun x => x.day == d + 1) = false) : balS c d l = balS c (d + 1) l := by
  unfold balS
  congr 1
  apply List.filter_congr
  intro x hx
  rw [List.any_eq_false] at h
  have := h x hx
  simp at this
  simp only [decide_eq_decide]
  omega
theorem IBx.set {w : World} {p : Nat} {n m : Int} (h : IBx w p n) : IBx (w.setCell ⟨p, 0, none⟩ (.int .i64 m)) p m := by
  obtain ⟨a, b⟩ := h
  refine ⟨by simpa using a, ?_⟩
  go_simp
theorem baE_day {b : Bk} {c : ByteArray} {d d' : Int} (h : dyB d = true) (h' : dyB d' = true) : baE b c d = baE b c d' := by unfold baE; rw [h, h']
set_option maxHeartbeats 4000000 in
theorem bookSteps_walk (q : BkA) (b : Bk) (c : ByteArray) (t0 : Int) (w : World) (hM : BkM w q b) :
    Calls Try.prog 9 #[bkV q b, .string c, .int .i64 t0] w fun e w' => e = .returned (.bool true) ∧ Below w.heap.size w w' := by
  have hK2 := ((Kept.refl w).alloc (bkO q b)).alloc (.cells #[.int .i64 t0] 3)
  have HB := Lib.hid ((BBx.new w q b).later ((Kept.refl (w.alloc (bkO q b))).alloc (.cells #[.int .i64 t0] 3)))
  have HI := Lib.hid (IBx.newAt (w := w.alloc (bkO q b)) (p := w.heap.size + 1) (by simp) t0 3)
  have HF := Lib.hid (show ((w.alloc (bkO q b)).alloc (.cells #[.int .i64 t0] 3)).frozen? ⟨w.heap.size + 1, 0, none⟩ = false by simp)
  have hS : ((w.alloc (bkO q b)).alloc (.cells #[.int .i64 t0] 3)).heap.size = w.heap.size + 1 + 1 := by simp
  have HM0 := Lib.hid hM
  obtain ⟨t, ht⟩ : ∃ t, wnV t0 292193 = t := ⟨_, rfl⟩
  have tb := wnV_bd t0 (n := 292193) (by decide)
  rw [ht] at tb
  have hd1 := Lib.hid ((dyB_iff t).2 (by omega))
  have hd2 := Lib.hid ((dyB_iff (t + 1)).2 (by omega))
  have BE := Lib.hid (baE_day (b := b) (c := c) hd1.out hd2.out)
  have WN := Lib.hid ht
  generalize hW : (w.alloc (bkO q b)).alloc (.cells #[.int .i64 t0] 3) = W at *
  have HW := Lib.hid hW
  have HK := Lib.hid hK2
  have hemx : b.ens.length ≤ 9223372036854775807 := by have := hM.en; unfold maxLen at this; omega
  clear hM hW hK2 ht
  go_enter Try.func9, Try.ntmps9
  go_wp2_with fail
  rw [HW.out]
  refine (begun_any W).mono ?_
  rintro e w1 ⟨rfl, hK1⟩
  obtain ⟨i0, i1⟩ := HI.out.later hK1
  have if0 := (hK1.rd.2 (w.heap.size + 1) 0 (by omega)).trans HF.out
  go_wp2_with fail
  refine (wn_any t0 292193 w1 (by decide) (by decide)).mono ?_
  rintro e w2 ⟨rfl, rfl⟩
  rw [WN.out]
  have kS : Kept w (w1.setCell ⟨w.heap.size + 1, 0, none⟩ (.int .i64 t)) := (HK.out.trans hK1).setAt (by omega) _
  have HI2 := Lib.hid ((HI.out.later hK1).set (m := t))
  have HB2 := Lib.hid ((HB.out.later hK1).other (r := w.heap.size + 1) (i := 0) (v := .int .i64 t) (by omega))
  have HM2 := Lib.hid (HM0.out.later kS)
  have sz2 : w.heap.size + 1 < w1.heap.size := i0
  have KS := Lib.hid kS
  clear kS
  obtain ⟨b0, b1, b2, b3⟩ := HB.out.later hK1
  have wr1 : IntKind.i64.wrap (t + 1) = t + 1 := IntWalk.i64_in _ (by omega)
  go_wp2_with fail
  generalize w1.setCell ⟨w.heap.size + 1, 0, none⟩ (.int .i64 t) = V at *
  clear b0 b1 b2 b3 i0 i1 if0 hK1
  by_cases ok : baE b c t = 0
  · have ok2 : baE b c (t + 1) = 0 := by rw [← BE.out]; exact ok
    have GD := Lib.hid (baE_ok ok).1
    refine (bal_yes q b c t V HM2.out ok).mono ?_
    rintro e w3 ⟨rfl, hK3⟩
    obtain ⟨b0, b1, b2, b3⟩ := HB2.out.later hK3
    obtain ⟨i0, i1⟩ := HI2.out.later hK3
    have BY := Lib.hid (bal_yes q b c (t + 1) w3 (HM2.out.later hK3) ok2)
    clear ok ok2
    go_wp2_with fail
    refine BY.out.mono ?_
    rintro e w4 ⟨rfl, hK4⟩
    clear b0 b1 b2 b3 i0 i1
    obtain ⟨b0, b1, b2, b3⟩ := HB2.out.later (hK3.trans hK4)
    have SH := Lib.hid (sthas_any (w.heap.size + 1) t b.ens q.ae q.ce w4 (by have := GD.out.many; omega) (by omega) (by omega) ((HM2.out.later (hK3.trans hK4)).ens) (HI2.out.later (hK3.trans hK4)))
    by_cases heq : balS c t b.ens = balS c (t + 1) b.ens
    · rw [heq]
      generalize balS c (t + 1) b.ens = z at *
      go_wp2
      go_ret
      exact ⟨rfl, KS.out.trans (hK3.trans hK4)⟩
    · have hany : (b.ens.any fun x => x.day == t + 1) = true := by
        cases h : (b.ens.any fun x => x.day == t + 1)
        · exact absurd (bal_step h) heq
        · rfl
      rw [hany] at SH
      have hb9 : (balS c t b.ens == balS c (t + 1) b.ens) = false := by simpa using heq
      clear heq hany
      generalize balS c t b.ens = z1 at *
      generalize balS c (t + 1) b.ens = z2 at *
      go_wp2_with fail
      refine SH.out.mono ?_
      rintro e w5 ⟨rfl, hK5⟩
      go_wp2
      go_ret
      exact ⟨rfl, KS.out.trans (hK3.trans (hK4.trans hK5))⟩
  · have BN := Lib.hid (fun V' (h : BkM V' q b) => bal_no q b c (t + 1) V' h (by rw [← BE.out]; exact ok))
    refine (bal_no q b c t V HM2.out ok).mono ?_
    rintro e w3 ⟨rfl, hK3⟩
    obtain ⟨b0, b1, b2, b3⟩ := HB2.out.later hK3
    obtain ⟨i0, i1⟩ := HI2.out.later hK3
    have BNR := Lib.hid (BN.out w3 (HM2.out.later hK3))
    rw [← BE.out] at BNR
    have hne : (baE b c t != 0) = true := by simpa using ok
    have hne2 : (baE b c t == 0) = false := by simpa using ok
    clear ok BN
    generalize baE b c t = ek at *
    go_wp2_with fail
    refine BNR.out.mono ?_
    rintro e w4 ⟨rfl, hK4⟩
    go_wp2
    go_ret
    exact ⟨by simp, KS.out.trans (hK3.trans hK4)⟩
end Go.Proofs.Ytndplbpdojbieaa
