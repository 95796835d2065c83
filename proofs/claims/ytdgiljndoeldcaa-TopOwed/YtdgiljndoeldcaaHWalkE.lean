/-
  What package book's Balance returns. No condition but those that each theorem names.
-/
import Derived.Test.YtdgiljndoeldcaaHWalkG
namespace Go.Proofs.Ytdgiljndoeldcaa
open Go.RowKit
set_option linter.unusedVariables false

/-- P37: the error. -/
def baE (b : Bk) (c : ByteArray) (d : Int) : Int := if bkE b = 0 then (if hasB c b.acs = true then (if dyB d = true then 0 else 1) else 4) else bkE b
def BalPost (w : World) (n er : Int) (e : Ending) (w' : World) : Prop := e = .returned (.tuple #[.int .i64 n, .int .i64 er]) ∧ Kept w w'
theorem IBx.newAt {w : World} {p : Nat} (hp : w.heap.size = p) (n : Int) (t : TypeId) : IBx (w.alloc (.cells #[.int .i64 n] t)) p n := by subst hp; exact ⟨by simp, by simp⟩
theorem codeS_snoc {c : ByteArray} {l : List Pr} {k : Nat} (h : k < l.length) : codeS c (l.take (k + 1)) = codeS c (l.take k) + (if isB c l[k] = true then (l[k]).2 else 0) := by
  rw [List.take_succ_eq_append_getElem h, codeS_append]; simp [codeS]
theorem allS_snoc {c : ByteArray} {l : List Et} {k : Nat} (h : k < l.length) : allS c (l.take (k + 1)) = allS c (l.take k) + codeS c (l[k]).lns := by
  rw [List.take_succ_eq_append_getElem h, allS_append]; simp [allS]
theorem codeS_bd {c : ByteArray} : ∀ {l : List Pr}, (∀ x ∈ l, -1000000000000 ≤ x.2 ∧ x.2 ≤ 1000000000000) → -1000000000000 * (l.length : Int) ≤ codeS c l ∧ codeS c l ≤ 1000000000000 * (l.length : Int)
  | [], _ => by simp [codeS]
  | x :: r, h => by
    obtain ⟨a, b⟩ := codeS_bd (c := c) (l := r) fun y hy => h y (by simp [hy])
    obtain ⟨d, e⟩ := h x (by simp)
    rw [codeS, List.length_cons]
    split <;> constructor <;> omega
theorem OkE.bd {acs : List Pr} {x : Et} (h : OkE acs x) : x.lns.length ≤ 12 ∧ ∀ y ∈ x.lns, -1000000000000 ≤ y.2 ∧ y.2 ≤ 1000000000000 := by
  obtain ⟨_, _, h12, hl, _⟩ := enE_ok h.1
  exact ⟨h12, fun y hy => ⟨(lnsE_all _ _ hl y hy).2.1, (lnsE_all _ _ hl y hy).2.2.1⟩⟩
theorem allS_bd {c : ByteArray} : ∀ {l : List Et}, (∀ x ∈ l, x.lns.length ≤ 12 ∧ ∀ y ∈ x.lns, -1000000000000 ≤ y.2 ∧ y.2 ≤ 1000000000000) → -12000000000000 * (l.length : Int) ≤ allS c l ∧ allS c l ≤ 12000000000000 * (l.length : Int)
  | [], _ => by simp [allS]
  | x :: r, h => by
    obtain ⟨a, b⟩ := allS_bd (c := c) (l := r) fun y hy => h y (by simp [hy])
    obtain ⟨d, e⟩ := h x (by simp)
    obtain ⟨f, g⟩ := codeS_bd (c := c) e
    rw [allS, List.length_cons]
    constructor <;> omega
set_option maxHeartbeats 2000000 in
theorem bal_no (q : BkA) (b : Bk) (c : ByteArray) (d : Int) (w : World) (hM : BkM w q b) (er : baE b c d ≠ 0) :
    Calls Try.prog 36 #[bkV q b, .string c, .int .i64 d] w (BalPost w 0 (baE b c d)) := by
  have hK2 := ((Kept.refl w).alloc (bkO q b)).alloc (.cells #[.int .i64 d] 3)
  have HB := Lib.hid ((BBx.new w q b).later ((Kept.refl (w.alloc (bkO q b))).alloc (.cells #[.int .i64 d] 3)))
  have HI := Lib.hid (IBx.newAt (w := w.alloc (bkO q b)) (p := w.heap.size + 1) (by simp) d 3)
  have CK := Lib.hid (check_any q b _ (hM.later hK2))
  have HM := Lib.hid (hM.later hK2)
  generalize hW : (w.alloc (bkO q b)).alloc (.cells #[.int .i64 d] 3) = W at HB HI CK HM hK2
  have HW := Lib.hid hW
  have HK := Lib.hid hK2
  clear hM hW hK2
  by_cases h1 : bkE b = 0
  · rw [h1] at CK
    have AC := Lib.hid (bkE_iff.1 h1).acs
    have KH := Lib.hid (kd_has (c := c) (l := b.acs))
    cases h2 : hasB c b.acs
    · have FIN := Lib.hid (show baE b c d = 4 by unfold baE; rw [if_pos h1, if_neg (by simp [h2])])
      rw [h2] at KH
      clear h1 h2 er
      go_enter Try.func36, Try.ntmps36
      go_wp2_with fail
      rw [HW.out]
      refine CK.out.mono ?_
      rintro e w1 ⟨rfl, hK1⟩
      obtain ⟨d0, d1, d2, d3⟩ := HB.out.later hK1
      have HM1 := Lib.hid (HM.out.later hK1)
      go_wp2_with fail
      refine (kind_yes _ _ _ c _ HM1.out.acs HM1.out.sha HM1.out.an AC.out).mono ?_
      rintro e w2 ⟨rfl, hK3⟩
      rw [KH.out]
      go_wp2
      go_ret2
      exact ⟨by rw [FIN.out]; rfl, HK.out.trans (hK1.trans hK3)⟩
    · have h3 : dyB d = false := by
        cases h : dyB d
        · rfl
        · exact absurd (show baE b c d = 0 by unfold baE; rw [if_pos h1, if_pos h2, if_pos h]) er
      have FIN := Lib.hid (show baE b c d = 1 by unfold baE; rw [if_pos h1, if_pos h2, if_neg (by simp [h3])])
      have H3 := Lib.hid h3
      rw [h2] at KH
      clear h1 h2 h3 er
      go_enter Try.func36, Try.ntmps36
      go_wp2_with fail
      rw [HW.out]
      refine CK.out.mono ?_
      rintro e w1 ⟨rfl, hK1⟩
      obtain ⟨d0, d1, d2, d3⟩ := HB.out.later hK1
      have HM1 := Lib.hid (HM.out.later hK1)
      go_wp2_with fail
      refine (kind_yes _ _ _ c _ HM1.out.acs HM1.out.sha HM1.out.an AC.out).mono ?_
      rintro e w2 ⟨rfl, hK3⟩
      rw [KH.out]
      obtain ⟨e0, e1⟩ := HI.out.later (hK1.trans hK3)
      go_wp2_with fail
      refine (vday_anyH _ _).mono ?_
      rintro e w4 ⟨rfl, rfl⟩
      rw [H3.out]
      go_wp2
      go_ret2
      exact ⟨by rw [FIN.out]; rfl, HK.out.trans (hK1.trans hK3)⟩
  · have FIN := Lib.hid (show baE b c d = bkE b by unfold baE; rw [if_neg h1])
    have h2 : (bkE b != 0) = true := by simpa using h1
    clear h1 er
    generalize bkE b = ek at *
    go_enter Try.func36, Try.ntmps36
    go_wp2_with fail
    rw [HW.out]
    refine CK.out.mono ?_
    rintro e w1 ⟨rfl, hK1⟩
    go_wp2
    go_ret2
    exact ⟨by rw [FIN.out]; rfl, HK.out.trans hK1⟩
theorem baE_ok {b : Bk} {c : ByteArray} {d : Int} (h : baE b c d = 0) : Good b ∧ hasB c b.acs = true ∧ dyB d = true := by
  unfold baE at h
  by_cases h1 : bkE b = 0
  · rw [if_pos h1] at h
    by_cases h2 : hasB c b.acs = true
    · rw [if_pos h2] at h
      by_cases h3 : dyB d = true
      · exact ⟨bkE_iff.1 h1, h2, h3⟩
      · rw [if_neg h3] at h; omega
    · rw [if_neg h2] at h; omega
  · rw [if_neg h1] at h; exact absurd h h1
set_option maxRecDepth 100000 in
set_option maxHeartbeats 4000000 in
theorem bal_yes (q : BkA) (b : Bk) (c : ByteArray) (d : Int) (w : World) (hM : BkM w q b) (ok : baE b c d = 0) :
    Calls Try.prog 36 #[bkV q b, .string c, .int .i64 d] w (BalPost w (balS c d b.ens) 0) := by
  obtain ⟨gd, h2, h3⟩ := baE_ok ok
  have hK2 := ((Kept.refl w).alloc (bkO q b)).alloc (.cells #[.int .i64 d] 3)
  have HB := Lib.hid ((BBx.new w q b).later ((Kept.refl (w.alloc (bkO q b))).alloc (.cells #[.int .i64 d] 3)))
  have HI := Lib.hid (IBx.newAt (w := w.alloc (bkO q b)) (p := w.heap.size + 1) (by simp) d 3)
  have CK := Lib.hid (check_any q b _ (hM.later hK2))
  rw [bkE_iff.2 gd] at CK
  have HM := Lib.hid (hM.later hK2)
  have hcm : q.ce ≤ 9223372036854775807 := by have := hM.lce; unfold maxLen at this; omega
  have hec : b.ens.length ≤ q.ce := hM.le
  generalize hW : (w.alloc (bkO q b)).alloc (.cells #[.int .i64 d] 3) = W at HB HI CK HM hK2
  have HW := Lib.hid hW
  have HK := Lib.hid hK2
  have AC := Lib.hid gd.acs
  have KH := Lib.hid (kd_has (c := c) (l := b.acs))
  rw [h2] at KH
  have H3 := Lib.hid h3
  have G := Lib.hid gd
  have FIN := Lib.hid (ltI_take c d b.ens gd.srt)
  obtain ⟨t, ht⟩ : ∃ t, ltI d b.ens = t := ⟨_, rfl⟩
  have HT := Lib.hid ht
  have tle : t ≤ b.ens.length := by rw [← ht]; exact List.findIdx_le_length
  rw [ht] at FIN
  have n60 := gd.many
  clear hM hW hK2 h2 h3 gd ok ht
  go_enter Try.func36, Try.ntmps36
  go_wp2_with fail
  rw [HW.out]
  refine CK.out.mono ?_
  rintro e w1 ⟨rfl, hK1⟩
  obtain ⟨d0, d1, d2, d3⟩ := HB.out.later hK1
  have HM1 := Lib.hid (HM.out.later hK1)
  go_wp2_with fail
  refine (kind_yes _ _ _ c _ HM1.out.acs HM1.out.sha HM1.out.an AC.out).mono ?_
  rintro e w2 ⟨rfl, hK3⟩
  rw [KH.out]
  have hK4 := hK1.trans hK3
  obtain ⟨e0, e1⟩ := HI.out.later hK4
  go_wp2_with fail
  refine (vday_anyH _ _).mono ?_
  rintro e w4 ⟨rfl, rfl⟩
  rw [H3.out]
  clear d0 d1 d2 d3
  obtain ⟨d0, d1, d2, d3⟩ := HB.out.later hK4
  have HF := Lib.hid (find_bal q b (w.heap.size + 1) (fun e => decide (d < e.day)) w2 (HM.out.later hK4) (fun wx x a n cap kk hx => bclos_any _ d x a n cap wx ((HI.out.later hK4).later kk)))
  rw [show b.ens.findIdx (fun e => decide (d < e.day)) = t from HT.out] at HF
  go_wp2_with fail
  refine HF.out.mono ?_
  rintro e w5 ⟨rfl, hK5⟩
  have hK6 := hK4.trans hK5
  clear d0 d1 d2 d3 e0 e1
  obtain ⟨d0, d1, d2, d3⟩ := HB.out.later hK6
  have g1 : (0 : Int) ≤ (t : Int) := by omega
  have g2 : (t : Int) ≤ (q.ce : Int) := by omega
  have HK6 := Lib.hid hK6
  clear hK1 hK3 hK4 hK5 hK6
  go_wp2
  have HRW := Lib.hid (HM.out.ens.later HK6.out)
  have EB := Lib.hid (fun k (hk : k < b.ens.length) => (G.out.each _ (List.getElem_mem hk)).bd)
  have SB := Lib.hid (fun k (hk : k ≤ b.ens.length) => allS_bd (c := c) (l := b.ens.take k) fun x hx => (G.out.each x (List.mem_of_mem_take hx)).bd)
  clear d0 d1 d2 d3 HF CK KH g1 g2
  go_loopw [12, 43] (fun s i wr => ∃ k : Nat, k ≤ t ∧ i = .int .i64 k ∧ s = .int .i64 (allS c (b.ens.take k)) ∧ Kept w5 wr) (fun _ i _ => t - (intOf i).toNat)
  case atStart => exact ⟨0, Nat.zero_le _, rfl, rfl, Kept.refl _⟩
  case round =>
    obtain ⟨k, hk, rfl, rfl, hK⟩ := hrel
    by_cases hlt : k < t
    · have hkl : k < b.ens.length := by omega
      obtain ⟨p, off, hp, hR⟩ := (HRW.out.later hK).at hkl
      obtain ⟨a, cap, c0, c1, c2, h1, h2, hL⟩ := hR.at k hkl
      have plt := hR.1
      have SN := Lib.hid (allS_snoc (c := c) hkl)
      obtain ⟨l12, LB⟩ := EB.out k hkl
      obtain ⟨s1, s2⟩ := SB.out k (by omega)
      rw [List.length_take, Nat.min_eq_left (by omega)] at s1 s2
      clear hR
      rw [hp] at *
      clear hp
      generalize b.ens[k] = x at *
      generalize allS c (b.ens.take k) = S0 at *
      have LBH := Lib.hid LB
      have kE := (Kept.refl wr).alloc (.cells #[.string x.key, .int .i64 x.day, .slice a x.lns.length cap] 64)
      have HL := Lib.hid (hL.later kE)
      have hK1 := hK.trans kE
      clear hL LB
      go_wp2
      generalize wr.alloc (.cells #[.string x.key, .int .i64 x.day, .slice a x.lns.length cap] 64) = w6 at *
      clear kE c0 c1 c2 plt h1 h2 hK
      go_loopw [12, 50] (fun s i wr2 => ∃ j : Nat, j ≤ x.lns.length ∧ i = .int .i64 j ∧ s = .int .i64 (S0 + codeS c (x.lns.take j)) ∧ Kept w6 wr2) (fun _ i _ => x.lns.length - (intOf i).toNat)
      case atStart => exact ⟨0, Nat.zero_le _, rfl, by simp [codeS], Kept.refl _⟩
      case round =>
        obtain ⟨j, hj, rfl, rfl, hKj⟩ := hrel
        by_cases hlj : j < x.lns.length
        · obtain ⟨p2, off2, rfl, hR2⟩ := (HL.out.later hKj).at hlj
          have c0 := hR2.c0 j hlj
          have c1 := hR2.c1 j hlj
          have plt := hR2.lt
          have CS := Lib.hid (codeS_snoc (c := c) hlj)
          obtain ⟨y1, y2⟩ := LBH.out _ (List.getElem_mem hlj)
          obtain ⟨z1, z2⟩ := codeS_bd (c := c) (l := x.lns.take j) fun y hy => LBH.out y (List.mem_of_mem_take hy)
          rw [List.length_take, Nat.min_eq_left hj] at z1 z2
          clear hR2
          generalize x.lns[j] = y at *
          generalize codeS c (x.lns.take j) = S1 at *
          have hK7 := hKj.alloc (.cells #[.string y.1, .int .i64 y.2] 97)
          cases hb : isB c y
          · have NX := Lib.hid (show codeS c (x.lns.take (j + 1)) = S1 by rw [CS.out, hb]; simp)
            have hb2 : (y.1.toList == c.toList) = false := hb
            clear hb CS
            go_wp2
            go_roundw
            case rel => exact ⟨j + 1, by omega, by go_num, by rw [NX.out], hK7⟩
            case measure => simp [intOf]; omega
          · have NX := Lib.hid (show codeS c (x.lns.take (j + 1)) = S1 + y.2 by rw [CS.out, hb]; simp)
            have hb2 : (y.1.toList == c.toList) = true := hb
            have wr3 : IntKind.i64.wrap (S0 + S1 + y.2) = S0 + S1 + y.2 := IntWalk.i64_in _ (by omega)
            clear hb CS
            go_wp2
            go_roundw
            case rel => exact ⟨j + 1, by omega, by go_num, by rw [NX.out, Int.add_assoc], hK7⟩
            case measure => simp [intOf]; omega
        · obtain rfl : j = x.lns.length := by omega
          clear hlj
          rw [List.take_length]
          go_wp2
          go_roundw
          case rel => exact ⟨k + 1, by omega, by go_num, by rw [SN.out], hK1.trans hKj⟩
          case measure => simp [intOf]; omega
    · obtain rfl : k = t := by omega
      clear hlt
      go_wp2
      go_ret2
      exact ⟨by rw [FIN.out]; rfl, HK.out.trans (HK6.out.trans hK)⟩
end Go.Proofs.Ytdgiljndoeldcaa
