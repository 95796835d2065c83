/-
  The reference's Kinds and Trial, of a good book. No condition but those that each theorem names.
-/
import Derived.Test.YtjfflnkocajkeaaDoorJWalkC
namespace Go.Proofs.YtjfflnkocajkeaaDoor
open Go.RowKit Go.Maps Go.WideMaps
set_option linter.unusedVariables false

set_option maxRecDepth 100000 in
set_option maxHeartbeats 4000000 in
theorem rkinds_any (q : BkA) (b : Bk) (f t kk : Int) (w : World) (hM : BkM w q b) (gd : Good b) :
    Calls Tryd.prog 11 #[bkV q b, .int .i64 f, .int .i64 t, .int .i64 kk] w fun e w' => e = .returned (.int .i64 (kinS b.acs kk f t b.ens)) ∧ Kept w w' := by
  have k1 := (Kept.refl w).alloc (bkO q b)
  have HB := Lib.hid (BBx.new w q b)
  have HM := Lib.hid (hM.later k1)
  have RS := Lib.hid (rsums_rg q b f t _ (hM.later k1) gd)
  have KI := Lib.hid (kiA_kin gd kk f t)
  have SB := Lib.hid (fun j => kiA_bd (k := kk) (fun c => rgS_bd gd c f t) (b.acs.take j))
  have RB := Lib.hid (fun c => rgS_bd gd c f t)
  have n24 := gd.a24
  have HK := Lib.hid k1
  generalize hW : w.alloc (bkO q b) = W at HB HM RS HK
  have HW := Lib.hid hW
  clear hM gd k1 hW
  obtain ⟨b0, b1, b2, b3⟩ := HB.out
  go_enter Tryd.func11, Tryd.ntmps11
  go_wp2_with fail
  rw [HW.out]
  refine RS.out.mono ?_
  rintro e w1 ⟨bm, n, h, rfl, hN, hS, hn7, hA, hK1⟩
  clear b0 b1 b2 b3 RS
  obtain ⟨b0, b1, b2, b3⟩ := HB.out.later hK1
  have HK1 := Lib.hid hK1
  have HN := Lib.hid hN
  have HS := Lib.hid hS
  clear hK1 hN hS hn7 hA
  go_wp2
  clear b0 b1 b2 b3
  go_loopw [10, 20] (fun s i wr => ∃ j : Nat, j ≤ b.acs.length ∧ i = .int .i64 j ∧ s = .int .i64 (kiA kk (fun c => rgS c f t b.ens) (b.acs.take j)) ∧ Kept w1 wr) (fun _ i _ => b.acs.length - (intOf i).toNat)
  case atStart => exact ⟨0, Nat.zero_le _, rfl, rfl, Kept.refl _⟩
  case round =>
    obtain ⟨j, hj, rfl, rfl, hK⟩ := hrel
    by_cases hlt : j < b.acs.length
    · have hKK := HK1.out.trans hK
      obtain ⟨p, off, hp, hR⟩ := (HM.out.later hKK).acs.at hlt
      have c0 := hR.c0 j hlt
      have c1 := hR.c1 j hlt
      have plt := hR.lt
      have SN := Lib.hid (show kiA kk (fun c => rgS c f t b.ens) (b.acs.take (j + 1)) = kiA kk (fun c => rgS c f t b.ens) (b.acs.take j) + if (b.acs[j]).2 = kk then rgS (b.acs[j]).1 f t b.ens else 0 by rw [List.take_succ_eq_append_getElem hlt, kiA_snoc])
      have hys := HM.out.sha _ (List.getElem_mem hlt)
      obtain ⟨s1, s2⟩ := SB.out j
      rw [List.length_take, Nat.min_eq_left hj] at s1 s2
      obtain ⟨z1, z2⟩ := RB.out (b.acs[j]).1
      clear hR
      rw [hp] at *
      clear hp
      generalize b.acs[j] = y at *
      have kE := (Kept.refl wr).alloc (.cells #[.string y.1, .int .i64 y.2] 57)
      have hlk := ((HN.out.later hK).later kE).look hys
      rw [HS.out y.1] at hlk
      generalize kiA kk (fun c => rgS c f t b.ens) (b.acs.take j) = S0 at *
      generalize rgS y.1 f t b.ens = S1 at *
      have u1 : IntKind.i64.wrap (S0 + S1) = S0 + S1 := IntWalk.i64_in _ (by omega)
      have KE := Lib.hid (hK.trans kE)
      clear kE
      by_cases e0 : y.2 = kk
      · have e1 : (y.2 == kk) = true := by simpa using e0
        have SN2 := Lib.hid (show kiA kk (fun c => rgS c f t b.ens) (b.acs.take (j + 1)) = S0 + S1 by rw [SN.out, if_pos e0])
        clear SN e0
        go_wp2
        go_roundw
        case rel => exact ⟨j + 1, by omega, by go_num, by rw [SN2.out], KE.out⟩
        case measure => simp [intOf]; omega
      · have e1 : (y.2 == kk) = false := by rw [beq_eq_false_iff_ne]; exact e0
        have SN2 := Lib.hid (show kiA kk (fun c => rgS c f t b.ens) (b.acs.take (j + 1)) = S0 by rw [SN.out, if_neg e0]; omega)
        clear SN e0
        go_wp2
        go_roundw
        case rel => exact ⟨j + 1, by omega, by go_num, by rw [SN2.out], KE.out⟩
        case measure => simp [intOf]; omega
    · obtain rfl : j = b.acs.length := by omega
      clear hlt
      rw [List.take_length, KI.out]
      go_wp2
      exact bodyPost_ret (v := .int .i64 (kinS b.acs kk f t b.ens)) (by simp [results, Tryd.results11, go_sem]) rfl ⟨rfl, HK.out.trans (HK1.out.trans hK)⟩
set_option maxRecDepth 100000 in
set_option maxHeartbeats 4000000 in
theorem rtrial_any (q : BkA) (b : Bk) (d : Int) (w : World) (hM : BkM w q b) (gd : Good b) :
    Calls Tryd.prog 10 #[bkV q b, .int .i64 d] w fun e w' => e = .returned (.tuple #[.int .i64 (upS (fun c => balS c d b.ens) b.acs), .int .i64 (dnS (fun c => balS c d b.ens) b.acs)]) ∧ Kept w w' := by
  have k1 := (Kept.refl w).alloc (bkO q b)
  have HB := Lib.hid (BBx.new w q b)
  have RS := Lib.hid (rsums_rg q b 0 d _ (hM.later k1) gd)
  have HK := Lib.hid k1
  have G := Lib.hid gd
  have n24 := gd.a24
  generalize hW : w.alloc (bkO q b) = W at HB RS HK
  have HW := Lib.hid hW
  clear hM gd k1 hW
  obtain ⟨b0, b1, b2, b3⟩ := HB.out
  go_enter Tryd.func10, Tryd.ntmps10
  go_wp2_with fail
  rw [HW.out]
  refine RS.out.mono ?_
  rintro e w1 ⟨bm, n, h, rfl, hN, hS, hn7, hA, hK1⟩
  have HK1 := Lib.hid hK1
  have HS := Lib.hid (fun c => (hS c).trans (rgS_bal G.out c d))
  have HA := Lib.hid (fun s (hs : hasB s h = true) => show hasB s b.acs = true from by
    obtain ⟨y, hy, e⟩ := hasB_iff.1 hs
    rw [← e]; exact hA y hy)
  clear b0 b1 b2 b3 RS hK1 hS hA
  have hown := hN.own
  have bl : bm < w1.heap.size := hown.lt
  clear hN
  go_wp2_with (at_range; refine wpList_range_own _ rfl _ 67 rfl 9 3 keyedStr Tryd.underlying67 _ bm n _ rfl hown ?_)
  intro w0 hrg0 hg0 hs0
  have hK0 : Kept w1 w0 := Below.grown (Kept.refl w1) hg0 (Nat.le_refl _) (fun j e => by cases e)
  have NO := Lib.hid (inc_nodup (acE_inc G.out.acs).1)
  obtain ⟨F, hF⟩ : ∃ F : ByteArray → Int, (fun c => balS c d b.ens) = F := ⟨_, rfl⟩
  have HF := Lib.hid (show ∀ c, codeS c h = F c from fun c => by rw [HS.out, ← hF])
  obtain ⟨U1, U2⟩ := ud_bd (bal_bd G.out · d) b.acs
  rw [hF] at U1 U2
  have FU := Lib.hid (show upS (fun c => balS c d b.ens) b.acs = upS F b.acs by rw [hF])
  have FD := Lib.hid (show dnS (fun c => balS c d b.ens) b.acs = dnS F b.acs by rw [hF])
  obtain ⟨st1, st2⟩ := lf_start HF.out b.acs
  have ST1 := Lib.hid st1
  have ST2 := Lib.hid st2
  have K0 := Lib.hid hK0
  have LA := Lib.hid (show ∀ s, Maps.has (nmD h) (keyL s) = true → hasB s b.acs = true from fun s e => HA.out s (by rw [nmD_has] at e; exact e))
  generalize hup : upS F b.acs = UU at *
  generalize hdn : dnS F b.acs = DD at *
  clear hg0 hs0 hF st1 st2 HS hK0 hown hup hdn HA
  go_wp2
  go_loopw [6, 7] (fun s6 s7 wr => ∃ (left : Lit → Bool) (cnt : Nat) (P Q : Int), wr.ranges Tryd.prog 9 (plainElem (H := Unit) Tryd.prog 3) bm w1.heap.size n (nmD h) left cnt ∧ s6 = .int .i64 P ∧ s7 = .int .i64 Q ∧ Hid (P + upS (lfF left F) b.acs = UU ∧ Q + dnS (lfF left F) b.acs = DD ∧ 0 ≤ P ∧ 0 ≤ Q) ∧ Hid (∀ s, left (keyL s) = true → hasB s b.acs = true) ∧ Kept w1 wr) (fun _ _ wr => wr.rangeLeft bm w1.heap.size)
  case atStart => exact ⟨_, _, 0, 0, hrg0, rfl, rfl, Lib.hid ⟨by rw [ST1.out]; omega, by rw [ST2.out]; omega, by omega, by omega⟩, LA, K0.out⟩
  case round =>
    clear hrg0
    obtain ⟨left, cnt, P, Q, hrg, rfl, rfl, HP, HL, hK⟩ := hrel
    go_wp2_with (at_next; refine wpList_next_ranges _ rfl _ rfl 9 keyedStr _ Value.string (Value.int .i64) (fun key kl hkey => by obtain ⟨x, hx, _⟩ := keyStr_inv hkey; exact ⟨x, hx⟩) (fun v y hv => by obtain ⟨c, hc, _⟩ := plainElem_int_inv Tryd.underlying3 hv; exact ⟨c, hc⟩) bm w1.heap.size n _ _ _ rfl hrg ?_ ?_)
    · intro hc0 hl0
      obtain ⟨z1, z2⟩ := up_zero (F := lfF left F) (l := b.acs) fun a _ => by unfold lfF; rw [hl0]; rfl
      obtain ⟨p1, p2, _, _⟩ := HP.out
      obtain rfl : P = UU := by omega
      obtain rfl : Q = DD := by omega
      clear HP p1 p2 z1 z2 hl0 hc0
      go_wp2
      exact bodyPost_ret (v := .tuple #[.int .i64 P, .int .i64 Q]) (by simp [results, Tryd.results10, go_sem]) rfl ⟨by rw [FU.out, FD.out], HK.out.trans (HK1.out.trans hK)⟩
    · intro x c kl yd yp w2 cnt2 hkey hlx hv hat hrg2 hlt hg2 hs2 hen
      obtain ⟨x', ex, rfl⟩ := keyStr_inv hkey
      cases ex
      obtain ⟨c', ec, hz, _⟩ := plainElem_int_inv Tryd.underlying3 hv
      cases ec
      cases hz
      have hc := (nmD_at x h).symm.trans (hat (litI 0))
      have hc2 : F x = c := by
        rw [← HF.out]
        simpa using hc
      obtain ⟨u1, u2⟩ := lf_step (F := F) NO.out (hasB_iff.1 (HL.out x hlx)) hlx
      obtain ⟨p1, p2, p3, p4⟩ := HP.out
      rw [hc2] at u1 u2
      have q1 := (ud_sum (lfF (fun z => left z && !z.sameKey (keyL x)) F) b.acs).2
      obtain ⟨m1, hm1⟩ : ∃ m1, max c 0 = m1 := ⟨_, rfl⟩
      obtain ⟨m2, hm2⟩ : ∃ m2, max (-c) 0 = m2 := ⟨_, rfl⟩
      rw [hm1] at u1
      rw [hm2] at u2
      have HP2 := Lib.hid (show (P + m1) + upS (lfF (fun z => left z && !z.sameKey (keyL x)) F) b.acs = UU ∧ (Q + m2) + dnS (lfF (fun z => left z && !z.sameKey (keyL x)) F) b.acs = DD ∧ 0 ≤ P + m1 ∧ 0 ≤ Q + m2 from ⟨by omega, by omega, by omega, by omega⟩)
      have HL2 := Lib.hid (show ∀ s, (left (keyL s) && !(keyL s).sameKey (keyL x)) = true → hasB s b.acs = true from fun s e => HL.out s (by simp at e; exact e.1))
      have w1' : IntKind.i64.wrap (P + m1) = P + m1 := IntWalk.i64_in _ (by omega)
      have w2' : IntKind.i64.wrap (Q + m2) = Q + m2 := IntWalk.i64_in _ (by omega)
      have w3' : IntKind.i64.wrap (-c) = -c := IntWalk.i64_in _ (by omega)
      have KK := Lib.hid (show Kept w1 w2 from Below.grown hK hg2 hK.size (fun j e => by cases e; omega))
      have RG := Lib.hid hrg2
      clear hkey hlx hv hat hg2 hs2 hc hc2 u1 u2 HP p1 p2 p3 p4 q1 HL hrg2
      go_wp2
      trace_state
      go_roundw
      case rel => exact ⟨_, cnt2, P + m1, Q + m2, RG.out, rfl, rfl, HP2, HL2, KK.out⟩
      case measure => rw [RG.out.left_eq, hrg.left_eq]; exact hlt
end Go.Proofs.YtjfflnkocajkeaaDoor
