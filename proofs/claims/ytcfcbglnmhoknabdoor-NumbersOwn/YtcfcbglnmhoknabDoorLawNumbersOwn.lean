/-
  The law NumbersOwn returns true: slices that are handed in stay as they are, and results share no memory. Condition: the table of the months' lengths reads as the program lays it (Tab).
-/
import Derived.Test.YtcfcbglnmhoknabDoorOWalkF
namespace Go.Proofs.YtcfcbglnmhoknabDoor
open Go.RowKit Go.WideShapes

set_option maxRecDepth 100000 in
set_option maxHeartbeats 16000000 in
theorem own_at (amount m pay : Int) (a : Option Addr) (n cap : Nat) (wt : Nat → Int) (w : World) (hT : Tab w) (hn : (n : Int) ≤ 17592186044416) (hA : Arg w a n wt) (hz : a = none → cap = 0 ∧ n = 0) (b0 : -9223372036854775808 ≤ amount) (b1 : amount ≤ 9223372036854775807)
    (hq : (amount.tdiv 3 < 1 ∧ pay = 1) ∨ (amount.tdiv 3 = 1 ∧ pay = 1) ∨ (1 < amount.tdiv 3 ∧ pay = amount.tdiv 3)) :
    Calls Tryd.prog 5 #[.int .i64 amount, .slice a n cap, .int .i64 m] w fun e w' => e = .returned (.bool true) ∧ Kept w w' := by
  have TT := Lib.hid hT
  have AA := Lib.hid hA
  have ZZ := Lib.hid hz
  have W50 := Lib.hid (fun w => wN_any m 50 w (by omega) (by omega))
  generalize wN m 50 = s at *
  clear hT hA hz
  rcases hq with ⟨q1, q2⟩ | ⟨q1, q2⟩ | ⟨q1, q2⟩
  all_goals
    have PE := Lib.hid q2
    have QE := Lib.hid q1
    clear q1 q2
    go_enter Tryd.func5, Tryd.ntmps5
    go_wp2_with fail
    have hL := (Own.lit (w := w) (l := [1]) (t := 3) rfl).rd
    refine (by_3 _ _ hL).mono ?_
    rintro e w1 ⟨q, _, rfl, hR, hK1⟩
    have hK := ((Kept.refl w).alloc _).trans hK1
    clear hL hK1
    go_wp2_with fail
    have hQ := (Own.lit (w := w1) (l := [3]) (t := 3) rfl).rd
    refine (equal_yes (fun _ => 3) _ _ _ _ _ _ 1 _ (by omega) (hR.later ((Kept.refl w1).alloc _)) hQ).mono ?_
    rintro e w2 ⟨rfl, hd⟩
    have hK2 := (hK.alloc _).trans hd.kept
    clear hR hK hd hQ
    go_wp2_with fail
    refine (roomy_any a n cap _ wt _ (by omega) (AA.out.later hK2) ZZ.out).mono ?_
    rintro e W ⟨g, hg, rfl, hR, hK3⟩
    have K0 := Lib.hid (hK2.trans hK3)
    have gB := Lib.hid (Nat.le_trans hK2.le hg)
    have RM := Lib.hid hR
    have F0 := Lib.hid (Fam.nil W.heap.size W (fun _ => .slice none 0 0) (fun _ => 0) (fun _ _ => 0))
    have KK0 := Lib.hid (Kept.refl W)
    clear hK2 hK3 hg hR
    go_wp2_with fail
    refine (fr_by _ _ _ _ wt _ (by omega) (RM.out.arg.later KK0.out)).mono ?_
    rintro e x0 ⟨v, n0, g0, e0, rfl, hn, hs, hk⟩
    obtain ⟨a0, c0, rfl⟩ := hs.form
    have KK1 := Lib.hid (KK0.out.trans hk)
    have F1 := Lib.hid (F0.out.add hs hn hk KK0.out.le)
    clear hn hs hk F0 KK0
    go_wp2_with fail
    refine (fr_even _ _ _).mono ?_
    rintro e x1 ⟨v, n1, g1, e1, rfl, hn, hs, hk⟩
    obtain ⟨a1, c1, rfl⟩ := hs.form
    have KK2 := Lib.hid (KK1.out.trans hk)
    have F2 := Lib.hid (F1.out.add hs hn hk KK1.out.le)
    clear hn hs hk F1 KK1
    go_wp2_with fail
    refine (W50.out _).mono ?_
    rintro e w9 ⟨rfl, rfl⟩
    go_wp2_with fail
    refine (fr_deal _ _ _ _ _ wt _ (by omega) (RM.out.arg.later KK2.out)).mono ?_
    rintro e x2 ⟨v, n2, g2, e2, rfl, hn, hs, hk⟩
    obtain ⟨a2, c2, rfl⟩ := hs.form
    have KK3 := Lib.hid (KK2.out.trans hk)
    have F3 := Lib.hid (F2.out.add hs hn hk KK2.out.le)
    clear hn hs hk F2 KK2
    go_wp2_with fail
    refine (W50.out _).mono ?_
    rintro e w9 ⟨rfl, rfl⟩
    go_wp2_with fail
    refine (fr_quotas _ _ _ _ wt _ (by omega) (RM.out.arg.later KK3.out)).mono ?_
    rintro e x3 ⟨v, n3, g3, e3, rfl, hn, hs, hk⟩
    obtain ⟨a3, c3, rfl⟩ := hs.form
    have KK4 := Lib.hid (KK3.out.trans hk)
    have F4 := Lib.hid (F3.out.add hs hn hk KK3.out.le)
    clear hn hs hk F3 KK3
    go_wp2_with fail
    refine (fr_straight _ _ _ _).mono ?_
    rintro e x4 ⟨v, n4, g4, e4, rfl, hn, hs, hk⟩
    obtain ⟨a4, c4, rfl⟩ := hs.form
    have KK5 := Lib.hid (KK4.out.trans hk)
    have F5 := Lib.hid (F4.out.add hs hn hk KK4.out.le)
    clear hn hs hk F4 KK4
    go_wp2_with fail
    refine (fr_digits _ _ _ _).mono ?_
    rintro e x5 ⟨v, n5, g5, e5, rfl, hn, hs, hk⟩
    obtain ⟨a5, c5, rfl⟩ := hs.form
    have KK6 := Lib.hid (KK5.out.trans hk)
    have F6 := Lib.hid (F5.out.add hs hn hk KK5.out.le)
    clear hn hs hk F5 KK5
    go_wp2_with fail
    refine (fr_falling _ _ _ _ _).mono ?_
    rintro e x6 ⟨v, n6, g6, e6, rfl, hn, hs, hk⟩
    obtain ⟨a6, c6, rfl⟩ := hs.form
    have KK7 := Lib.hid (KK6.out.trans hk)
    have F7 := Lib.hid (F6.out.add hs hn hk KK6.out.le)
    clear hn hs hk F6 KK6
    go_wp2_with fail
    refine (fr_units _ _ _ _ _ _ wt _ (by omega) (RM.out.arg.later KK7.out)).mono ?_
    rintro e x7 ⟨v, n7, g7, e7, rfl, hn, hs, hk⟩
    obtain ⟨a7, c7, rfl⟩ := hs.form
    have KK8 := Lib.hid (KK7.out.trans hk)
    have F8 := Lib.hid (F7.out.add hs hn hk KK7.out.le)
    clear hn hs hk F7 KK7
    go_wp2_with fail
    refine (fr_months _ _ _ _ ((TT.out.kept K0.out).kept KK8.out)).mono ?_
    rintro e x8 ⟨v, n8, g8, e8, rfl, hn, hs, hk⟩
    obtain ⟨a8, c8, rfl⟩ := hs.form
    have KK9 := Lib.hid (KK8.out.trans hk)
    have F9 := Lib.hid (F8.out.add hs hn hk KK8.out.le)
    clear hn hs hk F8 KK8
    have q1 := QE.out
    go_wp2_with fail
    first
      | rw [show Value.int .i64 (1 : Int) = .int .i64 pay by rw [PE.out]]
      | rw [show amount.tdiv 3 = pay by rw [PE.out]]
      | skip
    clear q1
    refine (rows_one _ _ _ _).mono ?_
    rintro e xr ⟨v, er, rfl, hG, hk⟩
    obtain ⟨ar, cr, rfl⟩ := hG.form
    have RG := Lib.hid hG
    have KX := Lib.hid (KK9.out.trans hk)
    have FX := Lib.hid (F9.out.later hk)
    have BX := Lib.hid hk.le
    have hkr := hk
    have B8L := Lib.hid KK9.out.le
    clear hG hk KK9
    generalize hrn : rcn amount 1000 pay = rn at *
    have RN := Lib.hid hrn
    have RN40 := Lib.hid (show rn ≤ 40 by rw [← hrn]; exact rcn_le _ _ _)
    clear hrn
    go_wp2_with fail
    refine (equal_big wt _ _ n _ _ _ (by omega) ((RM.out.later KX.out).arg.rdn) ((AA.out.later (K0.out.trans KX.out)).rdn)).mono ?_
    rintro e x9 ⟨rfl, hd⟩
    have hk := hd.kept
    have hke := hk
    have KY := Lib.hid (KX.out.trans hk)
    have FY := Lib.hid (FX.out.later hk)
    have RY := Lib.hid (RG.out.later hk)
    clear hd hk
    have m0 := (RM.out.later KY.out).m 0 (by omega)
    have m1 := (RM.out.later KY.out).m 1 (by omega)
    have m2 := (RM.out.later KY.out).m 2 (by omega)
    rw [Nat.add_zero] at m0
    go_wp2_with fail
    refine (marked_at _ n _ _ (by omega) m0 m1 m2).mono ?_
    rintro e xx ⟨rfl, rfl⟩
    clear m0 m1 m2
    have NX := Lib.hid (nine_of (t := 25) (v0 := .slice a0 n0 c0) (v1 := .slice a1 n1 c1) (v2 := .slice a2 n2 c2) (v3 := .slice a3 n3 c3) (v4 := .slice a4 n4 c4) (v5 := .slice a5 n5 c5) (v6 := .slice a6 n6 c6) (v7 := .slice a7 n7 c7) (v8 := .slice a8 n8 c8) F9.out (Kept.trans hkr hke) rfl rfl rfl rfl rfl rfl rfl rfl rfl)
    clear hkr hke FX FY F9
    go_wp2
    obtain ⟨V, N, G, h9⟩ := NX.out
    have NN := Lib.hid h9
    have AK := Lib.hid ((Kept.refl x9).alloc (.cells #[.slice a0 n0 c0, .slice a1 n1 c1, .slice a2 n2 c2, .slice a3 n3 c3, .slice a4 n4 c4, .slice a5 n5 c5, .slice a6 n6 c6, .slice a7 n7 c7, .slice a8 n8 c8] 25))
    clear h9 NX
    generalize (x9.alloc (.cells #[.slice a0 n0 c0, .slice a1 n1 c1, .slice a2 n2 c2, .slice a3 n3 c3, .slice a4 n4 c4, .slice a5 n5 c5, .slice a6 n6 c6, .slice a7 n7 c7, .slice a8 n8 c8] 25)) = Wa at *
    generalize x9.heap.size = pa at *
    go_loopw [31, 138] (fun v i wr => ∃ (k : Nat) (X : Nat → Value), k ≤ 9 ∧ i = .int .i64 k ∧ Cln Wa.heap.size wr v N G k X ∧ Kept Wa wr) (fun _ i _ => (9 - intOf i).toNat)
    case atStart => exact ⟨0, fun _ => .slice none 0 0, by omega, rfl, Cln.nil _ _ _ _ _, Kept.refl _⟩
    case round =>
      obtain ⟨k, X, hk, rfl, hC, hKr⟩ := hrel
      obtain ⟨av, cv, rfl⟩ := hC.row.form
      by_cases hlt : k < 9
      · have hc := (NN.out.later hKr).cell k hlt
        have i1 : (k : Int) < 9 := by omega
        have SK := Lib.hid ((NN.out.later hKr).fam.sp k hlt)
        have N4 := Lib.hid ((NN.out.fam).n40 k hlt)
        have C0 := Lib.hid hC
        have K9 := Lib.hid hKr
        clear hC hKr
        go_wp2_with fail
        refine (clone_sp _ (by have := N4.out; omega) SK.out).mono ?_
        rintro e wc ⟨z, rfl, hz, hkc⟩
        obtain ⟨az, cz, rfl⟩ := hz.form
        have ZA := Lib.hid (hz.later ((Kept.refl wc).alloc (.cells #[.slice az (N k) cz] 25)))
        have KA := Lib.hid (hkc.alloc (.cells #[.slice az (N k) cz] 25))
        have CA := Lib.hid (C0.out.row.later hkc)
        clear hz hkc hc
        go_wp2_with (at_builtin; refine sapp_one rfl (.tmp 142) (.tmp 145) rfl (B := Wa.heap.size) (z := .slice az (N k) cz) rfl rfl (CA.out.alloc _) rfl (by simp) (by omega) (Nat.le_trans K9.out.le KA.out.le) ?_)
        intro v' w2 hr hgrow hm
        have hC' := C0.out.add ZA.out KA.out K9.out.le hr hgrow hm
        have hK' := Kept.grown (K9.out.trans KA.out) hgrow (fun b e => (C0.out.row.own.lt b e).1)
        clear hr hgrow hm CA ZA KA
        go_wp2
        go_roundw
        case rel => exact ⟨k + 1, _, by omega, by go_num, hC', hK'⟩
        case measure => simp [intOf]; omega
      · obtain rfl : k = 9 := by omega
        obtain ⟨qw, cw, ew, hqB, hql, hqc⟩ := hC.row.at (by omega)
        injection ew with ew1 _ ew2
        subst ew1 ew2
        have CX := Lib.hid hC.sp
        have R9 := Lib.hid (RY.out.later (AK.out.trans hKr))
        have KR := Lib.hid hKr
        have QB := Lib.hid hqB
        have QL := Lib.hid hql
        have QC := Lib.hid hqc
        clear hC hKr hqB hql hqc hlt hk
        go_wp2_with fail
        refine (rclone_any _ (by have := RN40.out; omega) R9.out).mono ?_
        rintro e ws ⟨vs, rfl, hs, hks⟩
        obtain ⟨sa, sc, rfl⟩ := hs.form
        have ST := Lib.hid (show St W.heap.size x8.heap.size Wa.heap.size ws 0 pa qw V X N G (.slice ar rn cr) (.slice sa rn sc) rn (rwF 1000 pay amount) from
          ⟨fun j _ hj => (NN.out.later (KR.out.trans hks)).fam.sp j hj, fun j hj => (CX.out j hj).later hks, (NN.out.later (KR.out.trans hks)).lt, (NN.out.later (KR.out.trans hks)).cell, Nat.lt_of_lt_of_le QL.out hks.le, fun j hj => (hks.rd.1 _ _ QL.out).trans (QC.out j hj), R9.out.later hks, hs.mono KR.out.le⟩)
        have WS := Lib.hid (KY.out.trans (AK.out.trans (KR.out.trans hks)))
        clear hs hks
        go_wp2_with fail
        refine (spoil_at g n (n + 3) _ _ (by omega) (by omega) (RM.out.later WS.out).wr).mono ?_
        rintro e wi ⟨⟨u, rfl⟩, hgi⟩
        have gW := RM.out.wr.lt
        have gR := gB.out
        have h1 := NN.out.le
        have h2 := NN.out.lt
        have h3 := QB.out
        have h8 := B8L.out
        have S0 := Lib.hid (ST.out.grown (k' := 0) hgi (Nat.le_refl _) (fun b e => by
          injection e with e
          subst e
          exact ⟨by omega, fun j _ hj z => by have := ((NN.out.fam).sp j hj).block z; omega⟩) h1 h2 h3)
        have KI := Lib.hid (Kept.grown (K0.out.trans WS.out) hgi (fun b e => by injection e with e; omega))
        have H1 := Lib.hid h1
        have H2 := Lib.hid h2
        have H3 := Lib.hid h3
        clear hgi gW gR h1 h2 h3 h8 ST WS
        go_wp2
        go_loopw [154] (fun i wr => ∃ k : Nat, k ≤ 9 ∧ i = .int .i64 k ∧ St W.heap.size x8.heap.size Wa.heap.size wr k pa qw V X N G (.slice ar rn cr) (.slice sa rn sc) rn (rwF 1000 pay amount) ∧ Kept w wr) (fun i _ => (9 - intOf i).toNat)
        case atStart => exact ⟨0, by omega, rfl, S0.out, KI.out⟩
        case round =>
          clear S0 KI
          obtain ⟨k, hk, rfl, hS, hKr⟩ := hrel
          have SS := Lib.hid hS
          have KS := Lib.hid hKr
          clear hKr
          by_cases hlt : k < 9
          · have hc := hS.cp k hlt
            have hd := hS.cq k hlt
            have sv := hS.v k (Nat.le_refl _) hlt
            have sx := hS.x k hlt
            have n4 := NN.out.fam.n40 k hlt
            have i0 : (0 : Int) ≤ (k : Int) := by omega
            have i1 : (k : Int) < 9 := by omega
            obtain ⟨av, cv, eV⟩ := sv.form
            obtain ⟨ax, cx, eX⟩ := sx.form
            rw [eV] at hc sv
            rw [eX] at hd sx
            have SV := Lib.hid sv
            have SX := Lib.hid sx
            have EV := Lib.hid eV
            clear hS sv sx eV eX
            go_wp2_with fail
            refine (equal_big (G k) _ _ (N k) _ _ _ (by omega) SV.out.rdn SX.out.rdn).mono ?_
            rintro e we ⟨rfl, hdr⟩
            have SE := Lib.hid (SV.out.later hdr.kept)
            have S2 := Lib.hid (SS.out.later hdr.kept H1.out H2.out H3.out)
            have K2 := Lib.hid (KS.out.trans hdr.kept)
            clear hdr hc hd
            go_wp2_with fail
            refine (spoil_sp _ _ SE.out).mono ?_
            rintro e wi2 ⟨⟨u, rfl⟩, hgi⟩
            rw [← EV.out] at hgi
            have S3 := S2.out.grown (k' := k + 1) hgi (Nat.le_succ _) (fun b e => ⟨NN.out.old k hlt b e, fun j h4 h5 z => NN.out.fam.ap k j (by omega) h5 b e z⟩) H1.out H2.out H3.out
            have K3 := Kept.grown K2.out hgi (fun b e => by have := ((NN.out.fam).sp k hlt).block e; have := K0.out.le; omega)
            clear hgi S2 K2 SE
            go_wp2
            go_roundw
            case rel => exact ⟨k + 1, by omega, by go_num, S3, K3⟩
            case measure => simp [intOf]; omega
          · obtain rfl : k = 9 := by omega
            clear hlt hk hS
            have q1 := QE.out
            go_wp2_with fail
            first
              | rw [show Value.int .i64 (1 : Int) = .int .i64 pay by rw [PE.out]]
              | rw [show amount.tdiv 3 = pay by rw [PE.out]]
              | skip
            clear q1
            refine (rows_one _ _ _ _).mono ?_
            rintro e wl ⟨v, er2, rfl, hG, hk⟩
            rw [RN.out] at hG
            obtain ⟨al, cl, rfl⟩ := hG.form
            have L1 := Lib.hid hG
            have S4 := Lib.hid (SS.out.later hk H1.out H2.out H3.out)
            have K4 := Lib.hid (KS.out.trans hk)
            have BL := Lib.hid (show Wa.heap.size ≤ wr.heap.size from by have := SS.out.lq; have := H3.out; omega)
            clear hG hk
            go_wp2_with fail
            refine (rspoil_any _ _ _ _ S4.out.r).mono ?_
            rintro e wz ⟨⟨u, rfl⟩, hgi⟩
            have L2 := L1.out.grown hgi (apart_blocks fun b e1 e2 => by have k1 := (L1.out.own.lt b e1).1; have k2 := (SS.out.r.own.lt b e2).2; omega)
            have S5 := S4.out.s.grown hgi (apart_blocks fun b e1 e2 => by have k1 := (S4.out.s.own.lt b e1).1; have k2 := (RY.out.own.lt b e2).2; have k3 := AK.out.le; omega)
            have K5 := Kept.grown K4.out hgi (fun b e => by have k1 := (S4.out.r.own.lt b e).1; have k2 := B8L.out; have k3 := K0.out.le; omega)
            clear hgi S4 K4
            go_wp2_with fail
            refine (requal_yes (rwF 1000 pay amount) _ _ rn _ _ _ (by have := RN40.out; omega) L2.arg S5.arg).mono ?_
            rintro e wq ⟨rfl, hdq⟩
            go_wp2
            go_ret
            exact ⟨rfl, K5.trans hdq.kept⟩
theorem numbersOwn_walk (amount : Int) (b0 : -9223372036854775808 ≤ amount ∧ amount ≤ 9223372036854775807) (a : Option Addr) (n cap : Nat) (wt : Nat → Int) (m : Int) (w : World) (hT : Tab w) (hn : (n : Int) ≤ 17592186044416) (hA : Arg w a n wt) (hz : a = none → cap = 0 ∧ n = 0) :
    Calls Tryd.prog 5 #[.int .i64 amount, .slice a n cap, .int .i64 m] w fun e w' => e = .returned (.bool true) ∧ Kept w w' := by
  by_cases c : amount.tdiv 3 < 1
  · exact own_at amount m 1 a n cap wt w hT hn hA hz b0.1 b0.2 (.inl ⟨c, rfl⟩)
  · by_cases d : amount.tdiv 3 = 1
    · exact own_at amount m 1 a n cap wt w hT hn hA hz b0.1 b0.2 (.inr (.inl ⟨d, rfl⟩))
    · exact own_at amount m (amount.tdiv 3) a n cap wt w hT hn hA hz b0.1 b0.2 (.inr (.inr ⟨by omega, rfl⟩))

end Go.Proofs.YtcfcbglnmhoknabDoor
