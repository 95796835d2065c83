/-
  What package book's Shut and Get return. No condition but those that each theorem names.
-/
import Derived.Test.YtbaahnafmfjpaaaGreatDoorHWalkC
import Derived.StillTailTactics
namespace Go.Proofs.YtbaahnafmfjpaaaGreatDoor
open Go.RowKit
set_option linter.unusedVariables false

/-- No book, and an error. -/
def BkNo (w : World) (er : Int) (e : Ending) (w' : World) : Prop := e = .returned (.tuple #[.agg #[.slice none 0 0, .slice none 0 0, .int .i64 0], .int .i64 er]) ∧ Kept w w'
/-- A book of the call's own, and no error. -/
def BkYes (w : World) (b : Bk) (e : Ending) (w' : World) : Prop := ∃ q, e = .returned (.tuple #[bkV q b, .int .i64 0]) ∧ BkF w' w.heap.size q b ∧ Kept w w'
theorem Kept.set3 {a w : World} {p : Nat} (h : Kept a w) (hp : a.heap.size ≤ p) (u v x : Value) : Kept a (((w.setCell ⟨p, 0, none⟩ u).setCell ⟨p, 1, none⟩ v).setCell ⟨p, 2, none⟩ x) := ((h.setAt hp u).setAt hp v).setAt hp x
theorem BkF.set3 {w : World} {B r : Nat} {q : BkA} {b : Bk} (h : BkF w B q b) (hr : r < B) (u v x : Value) : BkF (((w.setCell ⟨r, 0, none⟩ u).setCell ⟨r, 1, none⟩ v).setCell ⟨r, 2, none⟩ x) B q b := ((h.set hr).set hr).set hr
theorem VBk.noneAt (w : World) (q : BkA) (b : Bk) : VBk ((w.alloc (bkO q b)).alloc noBk) (w.heap.size + 1) noA noB := VBk.none _ _ (by simp)
theorem Good.lines {b : Bk} (g : Good b) : ∀ x ∈ b.ens, x.lns.length ≤ 12 := fun x hx => (enE_ok (g.each x hx).1).2.2.1
theorem Good.a24 {b : Bk} (g : Good b) : b.acs.length ≤ 24 := acE_24 g.acs
/-- P38: the error. -/
def shE (b : Bk) (d : Int) : Int := if bkE b = 0 then (if dyB d = true then (if d < b.shut then 9 else 0) else 1) else bkE b
set_option maxHeartbeats 2000000 in
theorem shut_no (q : BkA) (b : Bk) (d : Int) (w : World) (hM : BkM w q b) (er : shE b d ≠ 0) :
    Calls Tryz.prog 13 #[bkV q b, .int .i64 d] w (BkNo w (shE b d)) := by
  have hB := (BBx.new w q b).later ((Kept.refl (w.alloc (bkO q b))).alloc noBk)
  have hR := VBk.noneAt w q b
  have hK2 := ((Kept.refl w).alloc (bkO q b)).alloc noBk
  have CK := Lib.hid (check_any q b _ (hM.later hK2))
  generalize hW : (w.alloc (bkO q b)).alloc noBk = W at hB hR hK2 CK
  have HW := Lib.hid hW
  have HB := Lib.hid hB
  have HR := Lib.hid hR
  have HK := Lib.hid hK2
  clear hM hW
  obtain ⟨b0, b1, b2, b3⟩ := hB
  clear hR hK2
  by_cases h1 : bkE b = 0
  · rw [h1] at CK
    cases h2 : dyB d
    · have FIN := Lib.hid (show shE b d = 1 by unfold shE; rw [if_pos h1, if_neg (by simp [h2])])
      have H2 := Lib.hid h2
      clear h1 h2 er
      go_enter Tryz.func13, Tryz.ntmps13
      go_wp2_with fail
      rw [HW.out]
      refine CK.out.mono ?_
      rintro e w1 ⟨rfl, hK1⟩
      go_wp2_with fail
      refine (vday_any _ _).mono ?_
      rintro e w2 ⟨rfl, rfl⟩
      rw [H2.out]
      obtain ⟨⟨r0, r1, r2, r3⟩, f0, f1, f2⟩ := HR.out.later hK1
      have FK := Lib.hid ((HK.out.trans hK1).set3 (p := w.heap.size + 1) (by omega) (.slice none 0 0) (.slice none 0 0) (.int .i64 0))
      go_wp2
      exact bodyPost_ret (v := .tuple #[.agg #[.slice none 0 0, .slice none 0 0, .int .i64 0], .int .i64 1]) (by simp [results, Tryz.results13, go_sem, r1, r2, r3]) rfl ⟨by rw [FIN.out], FK.out⟩
    · have h3 : d < b.shut := by
        by_cases h : d < b.shut
        · exact h
        · exact absurd (show shE b d = 0 by unfold shE; rw [if_pos h1, if_pos h2, if_neg h]) er
      have FIN := Lib.hid (show shE b d = 9 by unfold shE; rw [if_pos h1, if_pos h2, if_pos h3])
      have H2 := Lib.hid h2
      clear h1 h2 er
      go_enter Tryz.func13, Tryz.ntmps13
      go_wp2_with fail
      rw [HW.out]
      refine CK.out.mono ?_
      rintro e w1 ⟨rfl, hK1⟩
      go_wp2_with fail
      refine (vday_any _ _).mono ?_
      rintro e w2 ⟨rfl, rfl⟩
      rw [H2.out]
      obtain ⟨⟨r0, r1, r2, r3⟩, f0, f1, f2⟩ := HR.out.later hK1
      obtain ⟨d0, d1, d2, d3⟩ := HB.out.later hK1
      have FK := Lib.hid ((HK.out.trans hK1).set3 (p := w.heap.size + 1) (by omega) (.slice none 0 0) (.slice none 0 0) (.int .i64 0))
      go_wp2
      exact bodyPost_ret (v := .tuple #[.agg #[.slice none 0 0, .slice none 0 0, .int .i64 0], .int .i64 9]) (by simp [results, Tryz.results13, go_sem, r1, r2, r3]) rfl ⟨by rw [FIN.out], FK.out⟩
  · have FIN := Lib.hid (show shE b d = bkE b by unfold shE; rw [if_neg h1])
    have h2 : (bkE b != 0) = true := by simpa using h1
    clear h1 er
    generalize bkE b = ek at *
    go_enter Tryz.func13, Tryz.ntmps13
    go_wp2_with fail
    rw [HW.out]
    refine CK.out.mono ?_
    rintro e w1 ⟨rfl, hK1⟩
    obtain ⟨⟨r0, r1, r2, r3⟩, f0, f1, f2⟩ := HR.out.later hK1
    have FK := Lib.hid ((HK.out.trans hK1).set3 (p := w.heap.size + 1) (by omega) (.slice none 0 0) (.slice none 0 0) (.int .i64 0))
    go_wp2
    exact bodyPost_ret (v := .tuple #[.agg #[.slice none 0 0, .slice none 0 0, .int .i64 0], .int .i64 ek]) (by simp [results, Tryz.results13, go_sem, r1, r2, r3]) rfl ⟨by rw [FIN.out], FK.out⟩
theorem shE_ok {b : Bk} {d : Int} (h : shE b d = 0) : Good b ∧ dyB d = true ∧ ¬ d < b.shut := by
  unfold shE at h
  by_cases h1 : bkE b = 0
  · rw [if_pos h1] at h
    by_cases h2 : dyB d = true
    · rw [if_pos h2] at h
      by_cases h3 : d < b.shut
      · rw [if_pos h3] at h; omega
      · exact ⟨bkE_iff.1 h1, h2, h3⟩
    · rw [if_neg h2] at h; omega
  · rw [if_neg h1] at h; exact absurd h h1
set_option maxHeartbeats 2000000 in
theorem shut_yes (q : BkA) (b : Bk) (d : Int) (w : World) (hM : BkM w q b) (ok : shE b d = 0) :
    Calls Tryz.prog 13 #[bkV q b, .int .i64 d] w (BkYes w ⟨b.acs, b.ens, d⟩) := by
  obtain ⟨gd, h2, h3⟩ := shE_ok ok
  have hB := (BBx.new w q b).later ((Kept.refl (w.alloc (bkO q b))).alloc noBk)
  have hR := VBk.noneAt w q b
  have hK2 := ((Kept.refl w).alloc (bkO q b)).alloc noBk
  have hS : ((w.alloc (bkO q b)).alloc noBk).heap.size = w.heap.size + 1 + 1 := by simp
  have CK := Lib.hid (check_any q b _ (hM.later hK2))
  rw [bkE_iff.2 gd] at CK
  generalize hW : (w.alloc (bkO q b)).alloc noBk = W at hB hR hK2 CK hS
  have HW := Lib.hid hW
  have HB := Lib.hid hB
  have HR := Lib.hid hR
  have HK := Lib.hid hK2
  have HM := Lib.hid (hM.later hK2)
  have H2 := Lib.hid h2
  have G := Lib.hid gd
  clear hM hW h2 gd ok
  obtain ⟨b0, b1, b2, b3⟩ := hB
  clear hR hK2
  go_enter Tryz.func13, Tryz.ntmps13
  go_wp2_with fail
  rw [HW.out]
  refine CK.out.mono ?_
  rintro e w1 ⟨rfl, hK1⟩
  go_wp2_with fail
  refine (vday_any _ _).mono ?_
  rintro e w2 ⟨rfl, rfl⟩
  rw [H2.out]
  obtain ⟨d0, d1, d2, d3⟩ := HB.out.later hK1
  go_wp2_with fail
  refine (copied_any q b w1 (HM.out.later hK1) G.out.a24 G.out.many G.out.lines).mono ?_
  rintro e w3 ⟨p, g, rfl, hF, hK3⟩
  have hle : w.heap.size + 1 < w1.heap.size := by have := hK1.le; omega
  have hle3 : w1.heap.size ≤ w3.heap.size := hK3.le
  have hR3 := HR.out.later (hK1.trans hK3)
  have rlt := hR3.box.lt
  obtain ⟨⟨r0, r1, r2, r3⟩, f0, f1, f2⟩ := id hR3
  have hn1 : w.heap.size + 1 ≠ w3.heap.size := by omega
  have hn2 : w3.heap.size ≠ w.heap.size + 1 := by omega
  have FF := Lib.hid (((hF.shut d).set3 (r := w.heap.size + 1) hle (.slice (some ⟨p, 0, none⟩) b.acs.length b.acs.length) (.slice (some ⟨g, 0, none⟩) b.ens.length b.ens.length) (.int .i64 d)).later ((Kept.refl _).alloc (.cells #[.slice (some ⟨p, 0, none⟩) b.acs.length b.acs.length, .slice (some ⟨g, 0, none⟩) b.ens.length b.ens.length, .int .i64 d] 25)))
  have FK := Lib.hid (((HK.out.trans (hK1.trans hK3)).set3 (p := w.heap.size + 1) (by omega) (.slice (some ⟨p, 0, none⟩) b.acs.length b.acs.length) (.slice (some ⟨g, 0, none⟩) b.ens.length b.ens.length) (.int .i64 d)).alloc (.cells #[.slice (some ⟨p, 0, none⟩) b.acs.length b.acs.length, .slice (some ⟨g, 0, none⟩) b.ens.length b.ens.length, .int .i64 d] 25))
  clear hF hK3 hR3
  go_wp2
  exact bodyPost_ret (v := .tuple #[bkV ⟨some ⟨p, 0, none⟩, b.acs.length, some ⟨g, 0, none⟩, b.ens.length⟩ ⟨b.acs, b.ens, d⟩, .int .i64 0]) (by simp [results, Tryz.results13, go_sem, r0, r1, r2, r3]) rfl ⟨_, rfl, FF.out.mono (by omega), FK.out⟩
/-- P36: the error. -/
def gtE (b : Bk) (k : ByteArray) : Int := if bkE b = 0 then (if kyI k b.ens < b.ens.length then 0 else 4) else bkE b
abbrev noEn : Obj := .cells #[.string ⟨#[]⟩, .int .i64 0, .slice none 0 0] 38
/-- An entry of the call's own, and no error. -/
def EtYes (w : World) (x : Et) (e : Ending) (w' : World) : Prop := ∃ p, w.heap.size ≤ p ∧ e = .returned (.tuple #[enV x.key x.day (some ⟨p, 0, none⟩) x.lns.length x.lns.length, .int .i64 0]) ∧ POwn w' p x.lns ∧ Kept w w'
set_option maxHeartbeats 2000000 in
theorem get_no (q : BkA) (b : Bk) (k : ByteArray) (w : World) (hM : BkM w q b) (er : gtE b k ≠ 0) :
    Calls Tryz.prog 14 #[bkV q b, .string k] w (EnNo w (gtE b k)) := by
  have hB := (BBx.new w q b).later ((Kept.refl (w.alloc (bkO q b))).alloc noEn)
  have hR := WBx.new (w.alloc (bkO q b)) ⟨#[]⟩ 0 (.slice none 0 0) 38 (w.heap.size + 1) (by simp)
  have hK2 := ((Kept.refl w).alloc (bkO q b)).alloc noEn
  have CK := Lib.hid (check_any q b _ (hM.later hK2))
  have hem : b.ens.length ≤ 9223372036854775807 := by have := hM.en; unfold maxLen at this; omega
  generalize hW : (w.alloc (bkO q b)).alloc noEn = W at hB hR hK2 CK
  have HW := Lib.hid hW
  have HB := Lib.hid hB
  have HR := Lib.hid hR
  have HK := Lib.hid hK2
  have HM := Lib.hid (hM.later hK2)
  clear hM hW
  obtain ⟨b0, b1, b2, b3⟩ := hB
  clear hR hK2
  by_cases h1 : bkE b = 0
  · rw [h1] at CK
    have h2 : ¬ kyI k b.ens < b.ens.length := fun h => er (by unfold gtE; rw [if_pos h1, if_pos h])
    have FIN := Lib.hid (show gtE b k = 4 by unfold gtE; rw [if_pos h1, if_neg h2])
    have HE := Lib.hid (show kyI k b.ens = b.ens.length by have : kyI k b.ens ≤ b.ens.length := List.findIdx_le_length; omega)
    clear h1 h2 er
    go_enter Tryz.func14, Tryz.ntmps14
    go_wp2_with fail
    rw [HW.out]
    refine CK.out.mono ?_
    rintro e w1 ⟨rfl, hK1⟩
    obtain ⟨d0, d1, d2, d3⟩ := HB.out.later hK1
    go_wp2_with fail
    refine (withKey_any q b k w1 (HM.out.later hK1)).mono ?_
    rintro e w2 ⟨rfl, hK3⟩
    rw [HE.out]
    obtain ⟨g0, g1, g2, g3⟩ := HB.out.later (hK1.trans hK3)
    obtain ⟨⟨r0, r1, r2, r3⟩, f0, f1, f2⟩ := HR.out.later (hK1.trans hK3)
    have FK := Lib.hid ((HK.out.trans (hK1.trans hK3)).set3 (p := w.heap.size + 1) (by omega) (.string ⟨#[]⟩) (.int .i64 0) (.slice none 0 0))
    go_wp2
    exact bodyPost_ret (v := .tuple #[.agg #[.string ⟨#[]⟩, .int .i64 0, .slice none 0 0], .int .i64 4]) (by simp [results, Tryz.results14, go_sem, r1, r2, r3]) rfl ⟨by rw [FIN.out], FK.out⟩
  · have FIN := Lib.hid (show gtE b k = bkE b by unfold gtE; rw [if_neg h1])
    have h2 : (bkE b != 0) = true := by simpa using h1
    clear h1 er
    generalize bkE b = ek at *
    go_enter Tryz.func14, Tryz.ntmps14
    go_wp2_with fail
    rw [HW.out]
    refine CK.out.mono ?_
    rintro e w1 ⟨rfl, hK1⟩
    obtain ⟨⟨r0, r1, r2, r3⟩, f0, f1, f2⟩ := HR.out.later hK1
    have FK := Lib.hid ((HK.out.trans hK1).set3 (p := w.heap.size + 1) (by omega) (.string ⟨#[]⟩) (.int .i64 0) (.slice none 0 0))
    go_wp2
    exact bodyPost_ret (v := .tuple #[.agg #[.string ⟨#[]⟩, .int .i64 0, .slice none 0 0], .int .i64 ek]) (by simp [results, Tryz.results14, go_sem, r1, r2, r3]) rfl ⟨by rw [FIN.out], FK.out⟩
set_option maxHeartbeats 2000000 in
theorem get_yes (q : BkA) (b : Bk) (k : ByteArray) (w : World) (hM : BkM w q b) (gd : Good b) (i : Nat) (hi : kyI k b.ens = i) (hk : i < b.ens.length) :
    Calls Tryz.prog 14 #[bkV q b, .string k] w (EtYes w b.ens[i]) := by
  have hB := (BBx.new w q b).later ((Kept.refl (w.alloc (bkO q b))).alloc noEn)
  have hR := WBx.new (w.alloc (bkO q b)) ⟨#[]⟩ 0 (.slice none 0 0) 38 (w.heap.size + 1) (by simp)
  have hK2 := ((Kept.refl w).alloc (bkO q b)).alloc noEn
  have CK := Lib.hid (check_any q b _ (hM.later hK2))
  have hem : b.ens.length ≤ 9223372036854775807 := by have := hM.en; unfold maxLen at this; omega
  rw [bkE_iff.2 gd] at CK
  generalize hW : (w.alloc (bkO q b)).alloc noEn = W at hB hR hK2 CK
  have HW := Lib.hid hW
  have HB := Lib.hid hB
  have HR := Lib.hid hR
  have HK := Lib.hid hK2
  have HM := Lib.hid (hM.later hK2)
  have NL := Lib.hid (gd.lines _ (List.getElem_mem hk))
  clear hM hW gd
  obtain ⟨b0, b1, b2, b3⟩ := hB
  clear hR hK2
  have WK := Lib.hid (fun w1 h => withKey_any q b k w1 h)
  obtain ⟨p, off, hp, hRow⟩ := HM.out.ens.at hk
  have HRow := Lib.hid hRow
  have HP := Lib.hid hp
  clear hRow hp
  rw [hi] at WK
  clear hi
  have hi0 : ((i : Int) == (b.ens.length : Int)) = false := by rw [beq_eq_false_iff_ne]; omega
  have g1 : (0 : Int) ≤ (i : Int) := by omega
  have g2 : (i : Int) < (b.ens.length : Int) := by omega
  go_enter Tryz.func14, Tryz.ntmps14
  go_wp2_with fail
  rw [HW.out]
  refine CK.out.mono ?_
  rintro e w1 ⟨rfl, hK1⟩
  obtain ⟨d0, d1, d2, d3⟩ := HB.out.later hK1
  go_wp2_with fail
  refine (WK.out w1 (HM.out.later hK1)).mono ?_
  rintro e w2 ⟨rfl, hK3⟩
  have hK4 := hK1.trans hK3
  obtain ⟨a, cap, c0, c1, c2, _, _, hL⟩ := (HRow.out.later hK4).at i hk
  have plt := (HRow.out.later hK4).1
  obtain ⟨e0, e1, e2, e3⟩ := HB.out.later hK4
  rw [HP.out] at e2
  obtain ⟨x, hxe⟩ : ∃ x, x = b.ens[i] := ⟨_, rfl⟩
  rw [← hxe] at c0 c1 c2 hL NL
  have HXE := Lib.hid hxe
  have HL := Lib.hid hL
  clear hL hxe
  go_wp2_with fail
  refine (cpe_any x a cap w2 HL.out (by have := NL.out; omega)).mono ?_
  rintro e w5 ⟨p5, hp5, rfl, hO5, hK5⟩
  have hR5 := HR.out.later (hK4.trans hK5)
  have rl4 := (HR.out.later hK4).box.lt
  obtain ⟨⟨r0, r1, r2, r3⟩, f0, f1, f2⟩ := id hR5
  have hne : w.heap.size + 1 ≠ p5 := by omega
  have FO := Lib.hid (((hO5.other (r := w.heap.size + 1) (i := 0) (v := .string x.key) hne).other (r := w.heap.size + 1) (i := 1) (v := .int .i64 x.day) hne).other (r := w.heap.size + 1) (i := 2) (v := .slice (some ⟨p5, 0, none⟩) x.lns.length x.lns.length) hne)
  have FK := Lib.hid ((HK.out.trans (hK4.trans hK5)).set3 (p := w.heap.size + 1) (by omega) (.string x.key) (.int .i64 x.day) (.slice (some ⟨p5, 0, none⟩) x.lns.length x.lns.length))
  clear hO5 hK5 hR5 c0 c1 c2 plt
  go_wp2
  exact bodyPost_ret (v := .tuple #[enV x.key x.day (some ⟨p5, 0, none⟩) x.lns.length x.lns.length, .int .i64 0]) (by simp [results, Tryz.results14, go_sem, r1, r2, r3]) rfl ⟨p5, by omega, by rw [← HXE.out], by rw [← HXE.out]; exact FO.out, FK.out⟩
end Go.Proofs.YtbaahnafmfjpaaaGreatDoor
