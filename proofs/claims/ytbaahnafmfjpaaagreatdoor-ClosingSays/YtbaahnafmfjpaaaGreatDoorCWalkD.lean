/-
  The reference of entries: talref.Entry. No condition but those that each theorem names.
-/
import Derived.Test.YtbaahnafmfjpaaaGreatDoorJMap
namespace Go.Proofs.YtbaahnafmfjpaaaGreatDoor
open Go.RowKit Go.Maps
set_option linter.unusedVariables false

theorem hasB_rev (s : ByteArray) (l : List Pr) : hasB s l.reverse = hasB s l := by unfold hasB; rw [List.any_reverse]
theorem inB_no {x a b : Int} (h : x < a ∨ b < x) : inB x a b = false := by unfold inB; simp; omega
theorem PBx.grown' {w w' : World} {p : Nat} {x : Pr} {row : Option Nat} (h : PBx w p x) (g : w.grownBy w' row) (hne : some p ≠ row) : PBx w' p x :=
  ⟨Nat.lt_of_lt_of_le h.lt g.size, g.cell h.c0 hne, g.cell h.c1 hne⟩
theorem hdE_key {k : ByteArray} {d : Int} (h : keyB k = false) : hdE k d = 3 := by unfold hdE; rw [if_neg (by simp [h])]
theorem hdE_day {k : ByteArray} {d : Int} (h : keyB k = true) (g : inB d 0 292193 = false) : hdE k d = 1 := by
  unfold hdE; rw [if_pos h, if_pos]
  unfold inB at g; simp at g; omega
theorem hdE_ok {k : ByteArray} {d : Int} (h : keyB k = true) (g : inB d 0 292193 = true) : hdE k d = 0 := by
  unfold hdE; rw [if_pos h, if_neg]
  have := (inB_iff d 0 292193).1 g; omega
set_option maxHeartbeats 1000000 in
theorem rentry_key (k : ByteArray) (d : Int) (a : Option Addr) (l : List Pr) (cap : Nat) (w : World) (hs : k.size ≤ maxLen) (h : keyB k = false) :
    Calls Tryz.prog 18 #[enV k d a l.length cap] w fun e w' => e = .returned (.int .i64 3) ∧ Kept w w' := by
  have hK := (Kept.refl w).alloc (.cells #[.string k, .int .i64 d, .slice a l.length cap] 38)
  have H := Lib.hid h
  clear h
  go_enter Tryz.func18, Tryz.ntmps18
  go_wp2_with fail
  refine (rkey_any _ _ hs).mono ?_
  rintro e w1 ⟨rfl, rfl⟩
  rw [H.out]
  go_wp2
  go_ret
  exact ⟨rfl, hK⟩
set_option maxHeartbeats 1000000 in
theorem rentry_day (k : ByteArray) (d : Int) (a : Option Addr) (l : List Pr) (cap : Nat) (w : World) (hs : k.size ≤ maxLen) (h : keyB k = true) (g : inB d 0 292193 = false) :
    Calls Tryz.prog 18 #[enV k d a l.length cap] w fun e w' => e = .returned (.int .i64 1) ∧ Kept w w' := by
  have hK := (Kept.refl w).alloc (.cells #[.string k, .int .i64 d, .slice a l.length cap] 38)
  have H := Lib.hid h
  have G := Lib.hid g
  clear h g
  go_enter Tryz.func18, Tryz.ntmps18
  go_wp2_with fail
  refine (rkey_any _ _ hs).mono ?_
  rintro e w1 ⟨rfl, rfl⟩
  rw [H.out]
  go_wp2_with fail
  refine (rday_any _ _).mono ?_
  rintro e w1 ⟨rfl, rfl⟩
  rw [G.out]
  go_wp2
  go_ret
  exact ⟨rfl, hK⟩
set_option maxHeartbeats 1000000 in
theorem rentry_large (k : ByteArray) (d : Int) (a : Option Addr) (l : List Pr) (cap : Nat) (w : World) (hs : k.size ≤ maxLen) (h : keyB k = true) (g : inB d 0 292193 = true) (hl : 12 < l.length) (hn : l.length ≤ maxLen) :
    Calls Tryz.prog 18 #[enV k d a l.length cap] w fun e w' => e = .returned (.int .i64 2) ∧ Kept w w' := by
  have hK := (Kept.refl w).alloc (.cells #[.string k, .int .i64 d, .slice a l.length cap] 38)
  have H := Lib.hid h
  have G := Lib.hid g
  unfold maxLen at hn
  clear h g
  go_enter Tryz.func18, Tryz.ntmps18
  go_wp2_with fail
  refine (rkey_any _ _ hs).mono ?_
  rintro e w1 ⟨rfl, rfl⟩
  rw [H.out]
  go_wp2_with fail
  refine (rday_any _ _).mono ?_
  rintro e w1 ⟨rfl, rfl⟩
  rw [G.out]
  go_wp2
  go_ret
  exact ⟨rfl, hK⟩
set_option maxRecDepth 100000 in
set_option maxHeartbeats 4000000 in
theorem rentry_in (k : ByteArray) (d : Int) (a : Option Addr) (l : List Pr) (cap : Nat) (w : World) (hs : k.size ≤ maxLen) (h : keyB k = true) (g : inB d 0 292193 = true) (hl : l.length ≤ 12) (hA : PArg w a l) (hS : Shortish l) :
    Calls Tryz.prog 18 #[enV k d a l.length cap] w fun e w' => e = .returned (.int .i64 (tlE l)) ∧ Kept w w' := by
  have hK := (Kept.refl w).alloc (.cells #[.string k, .int .i64 d, .slice a l.length cap] 38)
  have HB := Lib.hid (EBx.new w k d (.slice a l.length cap) 38)
  have H := Lib.hid h
  have G := Lib.hid g
  have HA := Lib.hid hA
  have HS := Lib.hid hS
  have hmm := @run_makeMap Tryz.prog
  clear h g hA hS
  go_enter Tryz.func18, Tryz.ntmps18
  go_wp2_with fail
  refine (rkey_any _ _ hs).mono ?_
  rintro e w1 ⟨rfl, rfl⟩
  rw [H.out]
  go_wp2_with fail
  refine (rday_any _ _).mono ?_
  rintro e w1 ⟨rfl, rfl⟩
  rw [G.out]
  go_wp2
  have HM := Lib.hid (SetM.made (w.alloc (.cells #[.string k, .int .i64 d, .slice a l.length cap] 38)))
  have kM := Lib.hid ((Kept.refl (w.alloc (.cells #[.string k, .int .i64 d, .slice a l.length cap] 38))).alloc (.map #[] 0))
  have hb0 : (w.alloc (.cells #[.string k, .int .i64 d, .slice a l.length cap] 38)).heap.size = w.heap.size + 1 := by simp
  rw [hb0] at HM
  have HK0 := Lib.hid hK
  have hbw : w.heap.size + 1 ≤ w.heap.size + 1 := Nat.le_refl _
  generalize (w.alloc (.cells #[.string k, .int .i64 d, .slice a l.length cap] 38)) = W at *
  have hWb : W.heap.size ≤ w.heap.size + 1 := by omega
  clear hK hmm hb0 hbw
  generalize W.alloc (.map #[] 0) = W2 at *
  generalize w.heap.size + 1 = b at *
  generalize w.heap.size = bx at *
  go_loopw [4, 23] (fun s i wr => ∃ (j : Nat), j ≤ l.length ∧ i = .int .i64 j ∧ s = .int .i64 (sumL (l.take j)) ∧ Hid (lnsE [] l = lnsE (l.take j) (l.drop j)) ∧ -1000000000000 * (j : Int) ≤ sumL (l.take j) ∧ sumL (l.take j) ≤ 1000000000000 * (j : Int) ∧ SetM wr b j (l.take j).reverse ∧ Hid (Maps.size (setD (l.take j).reverse) = j) ∧ Kept W wr) (fun _ i _ => l.length - (intOf i).toNat)
  case atStart => exact ⟨0, Nat.zero_le _, rfl, rfl, Lib.hid rfl, by simp [sumL], by simp [sumL], HM.out, Lib.hid rfl, kM.out⟩
  case round =>
    obtain ⟨j, hj, rfl, rfl, HE, s1, s2, hM, HZ, hK⟩ := hrel
    by_cases hlt : j < l.length
    · obtain ⟨p, off, rfl, hR⟩ := (HA.out.later (HK0.out.trans hK)).at hlt
      have c0 := hR.c0 j hlt
      have c1 := hR.c1 j hlt
      have plt := hR.lt
      have HD := Lib.hid (drop_at l j hlt)
      have HT := Lib.hid (List.take_succ_eq_append_getElem hlt)
      have hz := HS.out l[j] (List.getElem_mem _)
      clear hR
      generalize l[j] = x at *
      have HX := Lib.hid (show lnsE (l.take j) (x :: l.drop (j + 1)) = if lnE x (l.take j) = 0 then lnsE (l.take j ++ [x]) (l.drop (j + 1)) else lnE x (l.take j) from rfl)
      have HSM := Lib.hid (show sumL (l.take (j + 1)) = sumL (l.take j) + x.2 by rw [HT.out, sumL_append]; simp [sumL])
      have kA := (Kept.refl wr).alloc (.cells #[.string x.1, .int .i64 x.2] 48)
      have hX := PBx.new wr x 48
      have hK1 := hK.trans kA
      have hM1 := hM.later kA
      have bl : b < wr.heap.size := hM.own.lt
      cases hc : codeB x.1
      · have E3 := Lib.hid (show tlE l = 3 from tlE_err (by rw [HE.out, HD.out, HX.out]; have : lnE x (l.take j) = 3 := (by unfold lnE; rw [if_neg (by simp [hc])]); rw [this]; rfl) (by decide))
        have C := Lib.hid hc
        clear hc HX
        go_wp2_with fail
        refine (rcode_any _ _ hz).mono ?_
        rintro e w2 ⟨rfl, hK2⟩
        rw [C.out]
        go_wp2
        go_ret
        exact ⟨ret_int E3.out.symm, (HK0.out.trans hK1).trans hK2⟩
      · have C := Lib.hid hc
        by_cases hy : x.2 < -1000000000000 ∨ 1000000000000 < x.2 ∨ x.2 = 0
        · have E3 := Lib.hid (show tlE l = 1 from tlE_err (by rw [HE.out, HD.out, HX.out]; have : lnE x (l.take j) = 1 := (by unfold lnE; rw [if_pos hc, if_pos hy]); rw [this]; rfl) (by decide))
          have h' : (inB x.2 (-1000000000000) 1000000000000 = false) ∨ (inB x.2 (-1000000000000) 1000000000000 = true ∧ (x.2 == 0) = true) := by
            rcases hy with h | h | h
            · exact .inl (inB_no (.inl h))
            · exact .inl (inB_no (.inr h))
            · exact .inr ⟨(inB_iff _ _ _).2 (by omega), by simp [h]⟩
          clear hc HX hy
          rcases h' with h | ⟨h, h3⟩
          all_goals
            have IH := Lib.hid h
            clear h
            go_wp2_with fail
            refine (rcode_any _ _ hz).mono ?_
            rintro e w2 ⟨rfl, hK2⟩
            rw [C.out]
            obtain ⟨x0, x1, x2⟩ := hX.later hK2
            go_wp2_with fail
            refine (rmoney_any _ _).mono ?_
            rintro e w3 ⟨rfl, rfl⟩
            rw [IH.out]
            go_wp2
            go_ret
            exact ⟨ret_int E3.out.symm, (HK0.out.trans hK1).trans hK2⟩
        · have IH := Lib.hid (show inB x.2 (-1000000000000) 1000000000000 = true from (inB_iff _ _ _).2 (by omega))
          have h3 : (x.2 == 0) = false := by rw [beq_eq_false_iff_ne]; omega
          have b1 : -1000000000000 ≤ x.2 := by omega
          have b2 : x.2 ≤ 1000000000000 := by omega
          go_wp2_with fail
          refine (rcode_any _ _ hz).mono ?_
          rintro e w2 ⟨rfl, hK2⟩
          rw [C.out]
          have hX2 := hX.later hK2
          have hM2 := hM1.later hK2
          have hK3 := hK1.trans hK2
          have bl2 : wr.heap.size < w2.heap.size := hX2.lt
          clear hX hM1 hK1 hK2 hM hK kA c0 c1 plt
          obtain ⟨x0, x1, x2⟩ := id hX2
          go_wp2_with fail
          refine (rmoney_any _ _).mono ?_
          rintro e w3 ⟨rfl, rfl⟩
          rw [IH.out]
          have hlk := hM2.look hz
          rw [hasB_rev] at hlk
          cases hh : hasB x.1 (l.take j)
          · have E3 := Lib.hid (show lnE x (l.take j) = 0 by unfold lnE; rw [if_pos hc, if_neg hy, if_neg (by simp [hh])])
            have HH := Lib.hid hh
            rw [hh] at hlk
            clear hc hy hh
            go_wp2_with (at_mapUpdate; refine put_one rfl _ _ _ rfl rfl hM2 (by omega) rfl rfl hz ?_)
            intro w4 hM4 hgr
            have hK4 : Kept W w4 := Below.grown hK3 hgr hK3.size (fun q e => by cases e; omega)
            obtain ⟨y0, y1, y2⟩ := hX2.grown' hgr (by simp; omega)
            have HZ4 := Lib.hid (show Maps.size (setD (x :: (l.take j).reverse)) = j + 1 by rw [setD_size (by rw [hasB_rev]; exact HH.out), HZ.out])
            have HL := Lib.hid (show (l.take (j + 1)).reverse = x :: (l.take j).reverse by rw [HT.out]; simp)
            clear hM2 hX2 x0 x1 x2 hlk hgr hK3
            go_wp2
            go_roundw
            case rel => exact ⟨j + 1, by omega, by go_num, by rw [HSM.out], Lib.hid (by rw [HE.out, HD.out, HX.out, if_pos E3.out, HT.out]), by rw [HSM.out]; omega, by rw [HSM.out]; omega, by rw [HL.out]; exact hM4, Lib.hid (by rw [HL.out]; exact HZ4.out), hK4⟩
            case measure => simp [intOf]; omega
          · have E3 := Lib.hid (show tlE l = 5 from tlE_err (by rw [HE.out, HD.out, HX.out]; have : lnE x (l.take j) = 5 := (by unfold lnE; rw [if_pos hc, if_neg hy, if_pos hh]); rw [this]; rfl) (by decide))
            rw [hh] at hlk
            clear hc hy hh HX
            go_wp2
            go_ret
            exact ⟨ret_int E3.out.symm, HK0.out.trans hK3⟩
    · obtain rfl : j = l.length := by omega
      clear hlt
      have HZZ := Lib.hid (show lnsE [] l = 0 by rw [HE.out, List.drop_length]; rfl)
      rw [List.take_length] at *
      have HKK := Lib.hid (HK0.out.trans hK)
      have hlen := hM.len
      rw [HZ.out] at hlen
      clear HE hK
      by_cases sz : sumL l = 0
      · have SZ := Lib.hid sz
        rw [sz]
        clear sz s1 s2
        by_cases l2 : l.length < 2
        · have l3 : (l.length : Int) < 2 := by omega
          go_wp2
          go_ret
          exact ⟨ret_int (tlE_sum HZZ.out (.inl (by omega))).symm, HKK.out⟩
        · have l3 : ¬ (l.length : Int) < 2 := by omega
          go_wp2
          go_ret
          exact ⟨ret_int (tlE_ok HZZ.out (by omega) SZ.out).symm, HKK.out⟩
      · have ZS := Lib.hid (show sumL l ≠ 0 from sz)
        have sz2 : (sumL l != 0) = true := by simpa using sz
        clear sz
        generalize hz9 : sumL l = z at s1 s2 sz2 ⊢
        clear hz9
        go_wp2
        go_ret
        exact ⟨ret_int (tlE_sum HZZ.out (.inr ZS.out)).symm, HKK.out⟩
/-- What the reference says of an entry. -/
theorem rentry_any (k : ByteArray) (d : Int) (a : Option Addr) (l : List Pr) (cap : Nat) (w : World) (hs : k.size ≤ maxLen) (hn : l.length ≤ maxLen) (hA : PArg w a l) (hS : Shortish l) :
    Calls Tryz.prog 18 #[enV k d a l.length cap] w fun e w' => e = .returned (.int .i64 (enE k d l)) ∧ Kept w w' := by
  unfold enE
  cases h : keyB k
  · rw [hdE_key h, if_neg (by decide)]
    exact rentry_key k d a l cap w hs h
  · cases g : inB d 0 292193
    · rw [hdE_day h g, if_neg (by decide)]
      exact rentry_day k d a l cap w hs h g
    · rw [hdE_ok h g, if_pos rfl]
      by_cases hl : 12 < l.length
      · rw [if_pos hl]; exact rentry_large k d a l cap w hs h g hl hn
      · rw [if_neg hl]; exact rentry_in k d a l cap w hs h g (by omega) hA hS
end Go.Proofs.YtbaahnafmfjpaaaGreatDoor
