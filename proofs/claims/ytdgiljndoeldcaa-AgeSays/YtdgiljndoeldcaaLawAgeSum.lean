/-
  The law AgeSum: for all items, a day, bounds and a number it answers true; nothing that was there is turned. No condition but those that each theorem names.
-/
import Derived.Test.YtdgiljndoeldcaaGSum
import Derived.Test.YtdgiljndoeldcaaGKeep
import Derived.Test.YtdgiljndoeldcaaPRow
namespace Go.Proofs.Ytdgiljndoeldcaa
open Go.RowKit Go.Sort
set_option linter.unusedVariables false

theorem own_arg {w : World} {g : Nat} {s : List Int} (h : Own w g s) : JArg eI w (some ⟨g, 0, none⟩) s := .inr ⟨g, 0, rfl, jrow_ints h.lt (fun j hj => by rw [Nat.zero_add]; exact h.cell j hj)⟩
theorem own_take {w : World} {g : Nat} {s : List Int} (h : Own w g s) (k : Nat) : JArg eI w (some ⟨g, 0, none⟩) (s.take k) := .inr ⟨g, 0, rfl, jrow_ints h.lt (fun j hj => by
  rw [List.length_take] at hj
  rw [Nat.zero_add, h.cell j (by omega), List.getElem_take])⟩
/-- What the law asks. -/
structure SmOk (l : List Mv) (s t : List Int) : Prop where
  sum : sumI s = csm l
  pos : ∀ x ∈ s, 0 ≤ x
  post : ∀ x ∈ t, 0 ≤ x
  len : t.length = s.length
  s1 : csm l ≤ 40000000000000
  sumt : sumI t = csm l
  le : ∀ k, k ≤ s.length → sumI (t.take k) ≤ sumI (s.take k)
  posl : ∀ x ∈ l, 1 ≤ x.2
  l40 : l.length ≤ 40
theorem sm_ok {l : List Mv} {today : Int} {bs : List Int} (h : AeOk l today bs) : SmOk l (agL bs today l) (agL bs (today + 1) l) := by
  have b := ItOk.csm h.it.it
  have := h.it.len
  refine ⟨agL_sum _ _ _, agL_pos h.it.it, agL_pos h.it.it, by rw [agL_len, agL_len], by omega, agL_sum _ _ _, fun k hk => ?_, fun x hx => (h.it.it x hx).2.2.1, h.it.len⟩
  rw [agL_len] at hk
  rw [agL_take _ _ _ k hk, agL_take _ _ _ k hk]
  exact agP_later h.bd.inc today k (fun x hx => (h.it.it x hx).2.2.1)
theorem aeE_zero {l : List Mv} {today : Int} {bs : List Int} (h : AeOk l today bs) (hb : bdE bs = 0) : aeE l today bs = 0 := by
  unfold aeE; rw [if_pos (itE_iff.2 h.it), if_pos ⟨h.d0, h.d1⟩, hb]
theorem aeE_bd {l : List Mv} {today : Int} {bs : List Int} (h : aeE l today bs = 0) : bdE bs = 0 := by
  have k := aeE_ok h
  unfold aeE at h
  rwa [if_pos (itE_iff.2 k.it), if_pos ⟨k.d0, k.d1⟩] at h
/-- Ages' answer by its parts. -/
theorem ages_is (a b : Option Addr) (l : List Mv) (bs : List Int) (n m cap cap' : Nat) (today : Int) (w : World) (s : List Int) (hn : l.length = n) (hm : bs.length = m) (hA : JArg eP w a l) (hB : JArg eI w b bs) (h : aeE l today bs = 0) (hs : agL bs today l = s) :
    Calls Try.prog 16 #[.slice a n cap, .int .i64 today, .slice b m cap'] w (AgesPost w s) := by
  subst hs hn hm
  exact ages_yes a b l bs cap cap' today w hA hB h
abbrev sumL : List Mv := [(5, 7)]
abbrev sumB : List Int := [9, 30]
set_option maxRecDepth 100000 in
set_option maxHeartbeats 8000000 in
theorem ageSum_walk (a : Option Addr) (l : List Mv) (cap : Nat) (today : Int) (b : Option Addr) (bs : List Int) (cap' : Nat) (k1 : Int) (w : World) (hA : JArg eP w a l) (hc : l.length ≤ cap) (hn : cap ≤ maxLen) (z : a = none → cap = 0) (hB : JArg eI w b bs) (hc' : bs.length ≤ cap') (hn' : cap' ≤ maxLen) (z' : b = none → cap' = 0) :
    Calls Try.prog 7 #[.slice a l.length cap, .int .i64 today, .slice b bs.length cap', .int .i64 k1] w fun e w' => e = .returned (.bool true) ∧ Below w.heap.size w w' := by
  obtain ⟨W1, hW1⟩ : ∃ W1, W1 = (w.alloc (.cells #[.int .i64 5, .int .i64 7] 31)).alloc (.cells #[.int .i64 9, .int .i64 30] 3) := ⟨_, rfl⟩
  have KA : Kept w W1 := by rw [hW1]; exact ((Kept.refl w).alloc _).alloc _
  have F0 : Calls Try.prog 16 #[.slice (some ⟨w.heap.size, 0, none⟩) 1 1, .int .i64 15, .slice (some ⟨w.heap.size + 1, 0, none⟩) 2 2] W1 (AgesPost W1 [0, 7, 0]) := by
    rw [hW1]
    exact ages_is (some ⟨w.heap.size, 0, none⟩) (some ⟨w.heap.size + 1, 0, none⟩) sumL sumB 1 2 1 2 15 _ [0, 7, 0] rfl rfl ((JArg.lit eP (w := w) sumL _ _ rfl rfl).later ((Kept.refl _).alloc _)) (JArg.lit eI _ _ _ (by simp) rfl) (by decide +kernel) (by decide +kernel)
  have F0 := Lib.hid F0
  have HW1 := Lib.hid hW1
  clear hW1
  have HA := Lib.hid hA
  have HB := Lib.hid hB
  have hl : l.length ≤ maxLen := Nat.le_trans hc hn
  have hb : bs.length ≤ maxLen := Nat.le_trans hc' hn'
  clear hA hB
  by_cases er : aeE l today bs = 0
  · have ok := aeE_ok er
    have sm := sm_ok ok
    have P1 := Lib.hid (fun (w' : World) (k : Kept w w') => ages_is a b l bs _ _ cap cap' today w' _ rfl rfl (HA.out.later k) (HB.out.later k) er rfl)
    have P2 := Lib.hid (fun (w' : World) (k : Kept w w') (h : today + 1 ≤ 292193) => ages_is a b l bs _ _ cap cap' (today + 1) w' _ rfl rfl (HA.out.later k) (HB.out.later k) (aeE_zero ⟨ok.it, by have := ok.d0; omega, h, ok.bd⟩ (aeE_bd er)) rfl)
    have d0 := ok.d0
    have d1 := ok.d1
    have sl := agL_len bs today l
    have b40 := ok.bd.len
    generalize agL bs today l = s at *
    generalize agL bs (today + 1) l = t at *
    have SL := Lib.hid sl
    have TL := Lib.hid sm.len
    have s41 : s.length ≤ 41 := by omega
    clear sl
    have s1 := sm.s1
    have l40 := sm.l40
    have OL := Lib.hid (fun (w' : World) (k : Kept w w') => owed_any a l cap w' (by omega) sm.posl (by omega) (HA.out.later k))
    have SM := Lib.hid sm
    clear sm ok er
    go_enter Try.func7, Try.ntmps7
    go_wp2_with fail
    rw [← HW1.out]
    refine F0.out.mono ?_
    rintro e w1 ⟨g, rfl, hg, hO, hK0⟩
    have hK1 := KA.trans hK0
    have EQ := Lib.hid (iequal_yes [0, 7, 0] (some ⟨g, 0, none⟩) (some ⟨w1.heap.size, 0, none⟩) 3 3 3 (w1.alloc (.cells #[.int .i64 0, .int .i64 7, .int .i64 0] 3)) (by decide) rfl ((own_arg hO).later ((Kept.refl w1).alloc _)) (JArg.lit eI _ _ _ rfl rfl))
    have kE := hK1.alloc (.cells #[.int .i64 0, .int .i64 7, .int .i64 0] 3)
    clear F0 KA HW1 hO hK0 hK1 hg
    go_wp2_with fail
    refine EQ.out.mono ?_
    rintro e w2 ⟨rfl, hK2⟩
    have hK12 := kE.trans hK2
    clear EQ kE hK2
    go_wp2_with fail
    refine (P1.out _ hK12).mono ?_
    rintro e w3 ⟨g1, rfl, hg1, hO1, hK3⟩
    have hK13 := hK12.trans hK3
    have KS := Lib.hid (ksum_any (some ⟨g1, 0, none⟩) s s.length w3 (by omega) SM.out.pos (by rw [SM.out.sum]; omega) (own_arg hO1))
    rw [SM.out.sum] at KS
    have HO1 := Lib.hid hO1
    clear P1 hK12 hK3 hO1
    go_wp2_with fail
    refine KS.out.mono ?_
    rintro e w4 ⟨rfl, rfl⟩
    go_wp2_with fail
    refine (OL.out _ hK13).mono ?_
    rintro e w5 ⟨rfl, hK5⟩
    have hK15 := hK13.trans hK5
    have HO5 := Lib.hid (HO1.out.later hK5)
    clear OL hK13 hK5 HO1 KS
    rw [SL.out]
    by_cases c : today = 292193
    · have cb : (today == 292193) = true := by simpa using c
      clear c
      go_wp2
      go_ret
      exact ⟨rfl, hK15⟩
    · have cb : (today == 292193) = false := by simpa using c
      have hw : IntKind.i64.wrap (today + 1) = today + 1 := IntWalk.i64_in _ (by omega)
      go_wp2_with fail
      refine (P2.out _ hK15 (by omega)).mono ?_
      rintro e w6 ⟨g2, rfl, hg2, hO2, hK6⟩
      have hK16 := hK15.trans hK6
      have HO6 := Lib.hid (HO5.out.later hK6)
      have HT6 := Lib.hid hO2
      have HO5L := Lib.hid (Nat.lt_of_lt_of_le HO5.out.lt hg2)
      clear P2 hK15 hK6 HO5 hO2
      rw [TL.out, SL.out]
      go_wp2_with fail
      refine (skWithin_any _ _ _ (by omega) (by omega)).mono ?_
      rintro e w7 ⟨k, k0, k1, rfl, rfl⟩
      obtain ⟨n, rfl⟩ : ∃ n : Nat, k = n := ⟨k.toNat, by omega⟩
      have hn3 : n ≤ s.length := by have := SL.out; omega
      have ea : (s.take n).length = n := by rw [List.length_take]; omega
      have eb : (t.take n).length = n := by rw [List.length_take]; have := TL.out; omega
      have SA := Lib.hid (fun (q : Nat) => show Calls Try.prog 28 #[.slice (some ⟨g1, 0, none⟩) n (bs.length + 1)] (w6.drewN q) _ from by
        have := ksum_any (some ⟨g1, 0, none⟩) (s.take n) (bs.length + 1) (w6.drewN q) (by omega) (fun x hx => SM.out.pos x (List.mem_of_mem_take hx)) (by have := (sumI_take SM.out.pos hn3).2; rw [SM.out.sum] at this; omega) (own_take (HO6.out.drewN q) n)
        rw [ea] at this
        exact this)
      have SB := Lib.hid (fun (q : Nat) => show Calls Try.prog 28 #[.slice (some ⟨g2, 0, none⟩) n (bs.length + 1)] (w6.drewN q) _ from by
        have := ksum_any (some ⟨g2, 0, none⟩) (t.take n) (bs.length + 1) (w6.drewN q) (by omega) (fun x hx => SM.out.post x (List.mem_of_mem_take hx)) (by have := (sumI_take SM.out.post (show n ≤ t.length by have := TL.out; omega)).2; rw [SM.out.sumt] at this; omega) (own_take (HT6.out.drewN q) n)
        rw [eb] at this
        exact this)
      have LE := SM.out.le n hn3
      obtain ⟨f, f1, f2⟩ : ∃ f : Nat → Int, f g1 = sumI (s.take n) ∧ f g2 = sumI (t.take n) := by
        have lt1 := HO5L.out
        exact ⟨fun u => if u = g1 then sumI (s.take n) else sumI (t.take n), if_pos rfl, if_neg (by omega)⟩
      have SX := Lib.hid (fun (q u : Nat) (h : u = g1 ∨ u = g2) => show Calls Try.prog 28 #[.slice (some ⟨u, 0, none⟩) n (bs.length + 1)] (w6.drewN q) (fun e w' => e = .returned (.int .i64 (f u)) ∧ w6.drewN q = w') from by
        rcases h with rfl | rfl
        · rw [f1]; exact SA.out q
        · rw [f2]; exact SB.out q)
      rw [← f1, ← f2] at LE
      have n1 : (n : Int) ≤ (bs.length : Int) + 1 := by omega
      have n2 : n ≤ bs.length + 1 := by omega
      clear ea eb hn3 HO6 HT6 SM SA SB f1 f2 HO5L
      go_wp2_with fail
      go_quiet (first | (go_at_call 28; exact quiet_same (SX.out _ _ (by first | exact .inl rfl | exact .inr rfl))))
      go_wp2
      go_ret
      exact ⟨rfl, hK16.drewN _⟩
  · have P1 := Lib.hid (fun (w' : World) (k : Kept w w') => ages_no a b l bs cap cap' today w' hl hb (HA.out.later k) (HB.out.later k) er)
    have nb : (aeE l today bs != 0) = true := by rw [bne_iff_ne]; exact er
    generalize aeE l today bs = q at *
    clear er
    go_enter Try.func7, Try.ntmps7
    go_wp2_with fail
    rw [← HW1.out]
    refine F0.out.mono ?_
    rintro e w1 ⟨g, rfl, hg, hO, hK0⟩
    have hK1 := KA.trans hK0
    have EQ := Lib.hid (iequal_yes [0, 7, 0] (some ⟨g, 0, none⟩) (some ⟨w1.heap.size, 0, none⟩) 3 3 3 (w1.alloc (.cells #[.int .i64 0, .int .i64 7, .int .i64 0] 3)) (by decide) rfl ((own_arg hO).later ((Kept.refl w1).alloc _)) (JArg.lit eI _ _ _ rfl rfl))
    have kE := hK1.alloc (.cells #[.int .i64 0, .int .i64 7, .int .i64 0] 3)
    clear F0 KA HW1 hO hK0 hK1 hg
    go_wp2_with fail
    refine EQ.out.mono ?_
    rintro e w2 ⟨rfl, hK2⟩
    have hK12 := kE.trans hK2
    clear EQ kE hK2
    go_wp2_with fail
    refine (P1.out _ hK12).mono ?_
    rintro e w3 ⟨rfl, hK3⟩
    go_wp2
    go_ret
    exact ⟨rfl, hK12.trans hK3⟩
end Go.Proofs.Ytdgiljndoeldcaa
