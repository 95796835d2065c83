import Derived.Test.YtbaahnafmfjpaaaGreatDoorMgLawBookZero
import Derived.StillTailTactics
/-
  Closings and reversals: the lines of a closing, the errors, the books. No condition but those that each theorem names.
-/
namespace Go.Proofs.YtbaahnafmfjpaaaGreatDoor
set_option linter.unusedVariables false

/-- The line that takes what one account holds, if it is one of income or expense. -/
def clO (f : ByteArray → Int) (a : Pr) : List Pr := if 3 ≤ a.2 ∧ f a.1 ≠ 0 then [(a.1, -(f a.1))] else []
/-- .. of all accounts. -/
def clL (f : ByteArray → Int) : List Pr → List Pr
  | [] => []
  | a :: r => clO f a ++ clL f r
theorem clL_append (f : ByteArray → Int) : ∀ l m : List Pr, clL f (l ++ m) = clL f l ++ clL f m
  | [], m => rfl
  | a :: r, m => by rw [List.cons_append, clL, clL, clL_append f r m, List.append_assoc]
theorem clL_snoc {f : ByteArray → Int} {l : List Pr} {j : Nat} (h : j < l.length) : clL f (l.take (j + 1)) = clL f (l.take j) ++ clO f l[j] := by
  rw [List.take_succ_eq_append_getElem h, clL_append]; simp [clL]
theorem clO_len (f : ByteArray → Int) (a : Pr) : (clO f a).length ≤ 1 := by unfold clO; split <;> simp
theorem clL_len (f : ByteArray → Int) : ∀ l : List Pr, (clL f l).length ≤ l.length
  | [] => by simp [clL]
  | a :: r => by
    have := clL_len f r
    have := clO_len f a
    rw [clL, List.length_append, List.length_cons]; omega
theorem clL_mem {f : ByteArray → Int} {x : Pr} : ∀ {l : List Pr}, x ∈ clL f l ↔ ∃ a ∈ l, 3 ≤ a.2 ∧ f a.1 ≠ 0 ∧ x = (a.1, -(f a.1))
  | [] => by simp [clL]
  | a :: r => by
    rw [clL, List.mem_append, clL_mem (l := r)]
    constructor
    · rintro (h | ⟨b, hb, k⟩)
      · unfold clO at h
        split at h
        · rename_i hc
          rw [List.mem_singleton] at h
          exact ⟨a, by simp, hc.1, hc.2, h⟩
        · cases h
      · exact ⟨b, by simp [hb], k⟩
    · rintro ⟨b, hb, k1, k2, k3⟩
      rcases List.mem_cons.1 hb with rfl | hb
      · refine .inl ?_
        unfold clO
        rw [if_pos ⟨k1, k2⟩, k3]; simp
      · exact .inr ⟨b, hb, k1, k2, k3⟩
theorem clS_bd {f : ByteArray → Int} (h : ∀ c, -720000000000000 ≤ f c ∧ f c ≤ 720000000000000) : ∀ l : List Pr, -720000000000000 * (l.length : Int) ≤ sumL (clL f l) ∧ sumL (clL f l) ≤ 720000000000000 * (l.length : Int)
  | [] => by simp [clL, sumL]
  | a :: r => by
    have := clS_bd h r
    have := h a.1
    rw [clL, sumL_append, List.length_cons]
    unfold clO
    split
    · simp only [sumL]; omega
    · simp only [sumL]; omega
/-- All lines of a closing. -/
def clA (f : ByteArray → Int) (c : ByteArray) (l : List Pr) : List Pr := clL f l ++ (if sumL (clL f l) = 0 then [] else [(c, -(sumL (clL f l)))])
theorem clA_sum (f : ByteArray → Int) (c : ByteArray) (l : List Pr) : sumL (clA f c l) = 0 := by
  unfold clA
  rw [sumL_append]
  split
  · rename_i h; rw [h]; rfl
  · simp only [sumL]; omega
theorem clA_len (f : ByteArray → Int) (c : ByteArray) (l : List Pr) : (clA f c l).length ≤ l.length + 1 := by
  have := clL_len f l
  unfold clA
  rw [List.length_append]
  split <;> simp <;> omega
theorem clA_mem {f : ByteArray → Int} {c : ByteArray} {l : List Pr} {x : Pr} (h : x ∈ clA f c l) : (∃ a ∈ l, 3 ≤ a.2 ∧ f a.1 ≠ 0 ∧ x = (a.1, -(f a.1))) ∨ x = (c, -(sumL (clL f l))) := by
  unfold clA at h
  rcases List.mem_append.1 h with h | h
  · exact .inl (clL_mem.1 h)
  · split at h
    · cases h
    · exact .inr (List.mem_singleton.1 h)
theorem clA_nil {f : ByteArray → Int} {c : ByteArray} {l : List Pr} (h : clL f l = []) : clA f c l = [] := by
  unfold clA; rw [h]; rfl
theorem clA_not {f : ByteArray → Int} {c : ByteArray} {l : List Pr} (h : clL f l ≠ []) : clA f c l ≠ [] := by
  unfold clA; intro k; exact h (List.append_eq_nil_iff.1 k).1
theorem clA_short {f : ByteArray → Int} {c : ByteArray} {l : List Pr} (h : Shortish l) (hc : c.size ≤ maxLen) : Shortish (clA f c l) := fun x hx => by
  rcases clA_mem hx with ⟨a, ha, _, _, rfl⟩ | rfl
  · exact h a ha
  · exact hc

/-! P42. -/
/-- The error of what is asked before the lines. -/
def ccE (b : Bk) (d : Int) (c : ByteArray) : Int :=
  if bkE b = 0 then (if dyB d = true then (if hasB c b.acs = true then (if kiV b.acs c = 2 then 0 else 3) else 4) else 1) else bkE b
theorem ccE_ok {b : Bk} {d : Int} {c : ByteArray} (h : ccE b d c = 0) : Good b ∧ dyB d = true ∧ hasB c b.acs = true ∧ kiV b.acs c = 2 := by
  unfold ccE at h
  by_cases h1 : bkE b = 0
  · rw [if_pos h1] at h
    by_cases h2 : dyB d = true
    · rw [if_pos h2] at h
      by_cases h3 : hasB c b.acs = true
      · rw [if_pos h3] at h
        by_cases h4 : kiV b.acs c = 2
        · exact ⟨bkE_iff.1 h1, h2, h3, h4⟩
        · rw [if_neg h4] at h; omega
      · rw [if_neg h3] at h; omega
    · rw [if_neg h2] at h; omega
  · rw [if_neg h1] at h; exact absurd h h1
/-- What accounts hold at a day. -/
def baF (b : Bk) (d : Int) (c : ByteArray) : Int := balS c d b.ens
/-- The closing entry. -/
def clX (b : Bk) (k : ByteArray) (d : Int) (c : ByteArray) : Et := ⟨k, d, clA (baF b d) c b.acs⟩
/-- P42: the error, and the book. -/
def clE (b : Bk) (k : ByteArray) (d : Int) (c : ByteArray) : Int :=
  if ccE b d c = 0 then (if clL (baF b d) b.acs = [] then 4 else if poE b (clX b k d c) = 0 then shE (poV b (clX b k d c)) d else poE b (clX b k d c)) else ccE b d c
def clV (b : Bk) (k : ByteArray) (d : Int) (c : ByteArray) : Bk := ⟨(poV b (clX b k d c)).acs, (poV b (clX b k d c)).ens, d⟩
theorem clE_ok {b : Bk} {k : ByteArray} {d : Int} {c : ByteArray} (h : clE b k d c = 0) :
    ccE b d c = 0 ∧ clL (baF b d) b.acs ≠ [] ∧ poE b (clX b k d c) = 0 ∧ shE (poV b (clX b k d c)) d = 0 := by
  unfold clE at h
  by_cases h1 : ccE b d c = 0
  · rw [if_pos h1] at h
    by_cases h2 : clL (baF b d) b.acs = []
    · rw [if_pos h2] at h; omega
    · rw [if_neg h2] at h
      by_cases h3 : poE b (clX b k d c) = 0
      · rw [if_pos h3] at h; exact ⟨h1, h2, h3, h⟩
      · rw [if_neg h3] at h; exact absurd h h3
  · rw [if_neg h1] at h; exact absurd h h1

/-! P43. -/
def noEt : Et := ⟨⟨#[]⟩, 0, []⟩
/-- The entry with a key. -/
def atK (k : ByteArray) (l : List Et) : Et := l.getD (kyI k l) noEt
theorem atK_eq {k : ByteArray} {l : List Et} (h : kyI k l < l.length) : atK k l = l[kyI k l] := by
  unfold atK; rw [List.getD_eq_getElem?_getD, List.getElem?_eq_getElem h]; rfl
/-- The entry that is posted when one is turned. -/
def unX (b : Bk) (k y : ByteArray) (d : Int) : Et := ⟨y, d, negL (atK k b.ens).lns⟩
/-- P43: the error. The book is 'poV b (unX b k y d)'. -/
def unE (b : Bk) (k y : ByteArray) (d : Int) : Int :=
  if gtE b k = 0 then (if hdE y d = 0 then poE b (unX b k y d) else hdE y d) else gtE b k
theorem gtE_ok {b : Bk} {k : ByteArray} (h : gtE b k = 0) : Good b ∧ kyI k b.ens < b.ens.length := by
  unfold gtE at h
  by_cases h1 : bkE b = 0
  · rw [if_pos h1] at h
    by_cases h2 : kyI k b.ens < b.ens.length
    · exact ⟨bkE_iff.1 h1, h2⟩
    · rw [if_neg h2] at h; omega
  · rw [if_neg h1] at h; exact absurd h h1
theorem unE_ok {b : Bk} {k y : ByteArray} {d : Int} (h : unE b k y d = 0) : gtE b k = 0 ∧ hdE y d = 0 ∧ poE b (unX b k y d) = 0 := by
  unfold unE at h
  by_cases h1 : gtE b k = 0
  · rw [if_pos h1] at h
    by_cases h2 : hdE y d = 0
    · rw [if_pos h2] at h; exact ⟨h1, h2, h⟩
    · rw [if_neg h2] at h; exact absurd h h2
  · rw [if_neg h1] at h; exact absurd h h1
end Go.Proofs.YtbaahnafmfjpaaaGreatDoor

/-
  What package closing's check and closingLines return. No condition but those that each theorem names.
-/
namespace Go.Proofs.YtbaahnafmfjpaaaGreatDoor
open Go.RowKit
set_option linter.unusedVariables false

set_option maxHeartbeats 2000000 in
theorem ccheck_any (q : BkA) (b : Bk) (d : Int) (c : ByteArray) (w : World) (hM : BkM w q b) :
    Calls Tryz.prog 10 #[bkV q b, .int .i64 d, .string c] w fun e w' => e = .returned (.int .i64 (ccE b d c)) ∧ Kept w w' := by
  have hK2 := (Kept.refl w).alloc (bkO q b)
  have HB := Lib.hid (BBx.new w q b)
  have HM := Lib.hid (hM.later hK2)
  have CK := Lib.hid (check_any q b _ (hM.later hK2))
  generalize hW : w.alloc (bkO q b) = W at HB CK hK2 HM
  have HW := Lib.hid hW
  have HK := Lib.hid hK2
  clear hM hW hK2
  obtain ⟨b0, b1, b2, b3⟩ := HB.out
  by_cases h1 : bkE b = 0
  · rw [h1] at CK
    have AC := Lib.hid (bkE_iff.1 h1).acs
    have TE := Lib.hid (show ∀ r : Int, (if dyB d = true then (if hasB c b.acs = true then (if kiV b.acs c = 2 then 0 else 3) else 4) else (1 : Int)) = r → ccE b d c = r from fun r h => by unfold ccE; rw [if_pos h1, h])
    clear h1
    by_cases g1 : d < 0
    · have FIN := Lib.hid (TE.out 1 (if_neg (by rw [dyB_iff]; omega)))
      clear TE
      go_enter Tryz.func10, Tryz.ntmps10
      go_wp2_with fail
      rw [HW.out]
      refine CK.out.mono ?_
      rintro e w1 ⟨rfl, hK1⟩
      go_wp2
      go_ret
      exact ⟨ret_int FIN.out.symm, HK.out.trans hK1⟩
    · by_cases g2 : 292193 < d
      · have FIN := Lib.hid (TE.out 1 (if_neg (by rw [dyB_iff]; omega)))
        clear TE
        go_enter Tryz.func10, Tryz.ntmps10
        go_wp2_with fail
        rw [HW.out]
        refine CK.out.mono ?_
        rintro e w1 ⟨rfl, hK1⟩
        go_wp2
        go_ret
        exact ⟨ret_int FIN.out.symm, HK.out.trans hK1⟩
      · have dy : dyB d = true := (dyB_iff _).2 ⟨by omega, by omega⟩
        have KY := Lib.hid (fun V (k : Kept W V) => kind_yes q.aa b.acs q.ca c V (HM.out.later k).acs HM.out.sha HM.out.an AC.out)
        rw [kd_has] at KY
        by_cases hb : hasB c b.acs = true
        · rw [if_pos hb] at KY
          obtain ⟨k, hk⟩ : ∃ k, kiV b.acs c = k := ⟨_, rfl⟩
          rw [show kdV (b.acs.filter (isB c)) = k from hk] at KY
          have FIN := Lib.hid (TE.out (if k = 2 then 0 else 3) (by rw [if_pos dy, if_pos hb, hk]))
          clear TE hk hb dy
          by_cases k2 : k = 2
          · rw [if_pos k2] at FIN
            subst k2
            go_enter Tryz.func10, Tryz.ntmps10
            go_wp2_with fail
            rw [HW.out]
            refine CK.out.mono ?_
            rintro e w1 ⟨rfl, hK1⟩
            clear b0 b1 b2 b3
            obtain ⟨b0, b1, b2, b3⟩ := HB.out.later hK1
            go_wp2_with fail
            refine (KY.out w1 hK1).mono ?_
            rintro e w2 ⟨rfl, hK2⟩
            go_wp2
            go_ret
            exact ⟨ret_int FIN.out.symm, HK.out.trans (hK1.trans hK2)⟩
          · rw [if_neg k2] at FIN
            have k3 : (k == 2) = false := by simpa using k2
            go_enter Tryz.func10, Tryz.ntmps10
            go_wp2_with fail
            rw [HW.out]
            refine CK.out.mono ?_
            rintro e w1 ⟨rfl, hK1⟩
            clear b0 b1 b2 b3
            obtain ⟨b0, b1, b2, b3⟩ := HB.out.later hK1
            go_wp2_with fail
            refine (KY.out w1 hK1).mono ?_
            rintro e w2 ⟨rfl, hK2⟩
            go_wp2
            go_ret
            exact ⟨ret_int FIN.out.symm, HK.out.trans (hK1.trans hK2)⟩
        · rw [if_neg hb] at KY
          have FIN := Lib.hid (TE.out 4 (by rw [if_pos dy, if_neg hb]))
          clear TE hb dy
          generalize kdV (b.acs.filter (isB c)) = k at *
          go_enter Tryz.func10, Tryz.ntmps10
          go_wp2_with fail
          rw [HW.out]
          refine CK.out.mono ?_
          rintro e w1 ⟨rfl, hK1⟩
          clear b0 b1 b2 b3
          obtain ⟨b0, b1, b2, b3⟩ := HB.out.later hK1
          go_wp2_with fail
          refine (KY.out w1 hK1).mono ?_
          rintro e w2 ⟨rfl, hK2⟩
          go_wp2
          go_ret
          exact ⟨ret_int FIN.out.symm, HK.out.trans (hK1.trans hK2)⟩
  · have FIN := Lib.hid (show ccE b d c = bkE b by unfold ccE; rw [if_neg h1])
    have h2 : (bkE b != 0) = true := by simpa using h1
    clear h1
    generalize bkE b = ek at *
    go_enter Tryz.func10, Tryz.ntmps10
    go_wp2_with fail
    rw [HW.out]
    refine CK.out.mono ?_
    rintro e w1 ⟨rfl, hK1⟩
    go_wp2
    go_ret
    exact ⟨ret_int FIN.out.symm, HK.out.trans hK1⟩
end Go.Proofs.YtbaahnafmfjpaaaGreatDoor

/-
  What package closing's closingLines returns. No condition but those that each theorem names.
-/
namespace Go.Proofs.YtbaahnafmfjpaaaGreatDoor
open Go.RowKit
set_option linter.unusedVariables false

/-- A row of lines of the call's own. -/
def ClPost (w : World) (l : List Pr) (e : Ending) (w' : World) : Prop := ∃ a cap, e = .returned (.slice a l.length cap) ∧ PGr 48 w.heap.size w' (.slice a l.length cap) l ∧ Kept w w'
set_option maxRecDepth 100000 in
set_option maxHeartbeats 4000000 in
theorem clines_any (q : BkA) (b : Bk) (d : Int) (c : ByteArray) (w : World) (hM : BkM w q b) (gd : Good b) (dy : dyB d = true) :
    Calls Tryz.prog 11 #[bkV q b, .int .i64 d, .string c] w (ClPost w (clA (baF b d) c b.acs)) := by
  have hK2 := (Kept.refl w).alloc (bkO q b)
  have HB := Lib.hid (BBx.new w q b)
  have HM := Lib.hid (hM.later hK2)
  have l24 := gd.a24
  have G := Lib.hid gd
  have BF := Lib.hid (fun c => bal_bd gd c d)
  have SB := Lib.hid (fun j => clS_bd (f := baF b d) (fun c => bal_bd gd c d) (b.acs.take j))
  have BA := Lib.hid (fun V (k : Kept (w.alloc (bkO q b)) V) c (h : hasB c b.acs = true) => bal_yes q b c d V (HM.out.later k) (gd.ba h dy))
  have KI := Lib.hid ((acE_inc gd.acs).2)
  generalize hW : w.alloc (bkO q b) = W at HB hK2 HM BA
  have HW := Lib.hid hW
  have HK := Lib.hid hK2
  have hle : w.heap.size ≤ W.heap.size := hK2.le
  clear hM hW hK2 gd dy
  obtain ⟨b0, b1, b2, b3⟩ := HB.out
  go_enter Tryz.func11, Tryz.ntmps11
  go_wp2_with (with_reducible rw [HW.out])
  clear b0 b1 b2 b3
  go_loopw [7, 8, 16] (fun v s i wr => ∃ j : Nat, j ≤ b.acs.length ∧ i = .int .i64 j ∧ s = .int .i64 (sumL (clL (baF b d) (b.acs.take j))) ∧ PGr 48 W.heap.size wr v (clL (baF b d) (b.acs.take j)) ∧ Kept W wr) (fun _ _ i _ => b.acs.length - (intOf i).toNat)
  case atStart => exact ⟨0, Nat.zero_le _, rfl, rfl, PGr.nil _ _ _, Kept.refl _⟩
  case round =>
    obtain ⟨j, hj, rfl, rfl, hG, hK⟩ := hrel
    obtain ⟨ad, cp, rfl, _, _⟩ := hG.form
    by_cases hlt : j < b.acs.length
    · obtain ⟨p, off, hp, hR⟩ := (HM.out.later hK).acs.at hlt
      have c0 := hR.c0 j hlt
      have c1 := hR.c1 j hlt
      have plt := hR.lt
      have SN := Lib.hid (clL_snoc (f := baF b d) hlt)
      have HH := Lib.hid (show hasB (b.acs[j]).1 b.acs = true from hasB_iff.2 ⟨_, List.getElem_mem hlt, rfl⟩)
      obtain ⟨_, k0, k4⟩ := KI.out _ (List.getElem_mem hlt)
      obtain ⟨s1, s2⟩ := SB.out j
      have ll := clL_len (baF b d) (b.acs.take j)
      rw [List.length_take, Nat.min_eq_left hj] at s1 s2 ll
      obtain ⟨z1, z2⟩ := BF.out (b.acs[j]).1
      clear hR
      have HQ := Lib.hid (show q = ⟨some ⟨p, off, none⟩, q.ca, q.ae, q.ce⟩ by cases q; simp at hp; simp [hp])
      generalize b.acs[j] = x at *
      have kA := (Kept.refl wr).alloc (.cells #[.string x.1, .int .i64 x.2] 54)
      rw [hp] at *
      clear hp
      obtain ⟨b0, b1, b2, b3⟩ := HB.out.later hK
      have HK1 := Lib.hid (hK.trans kA)
      have HG1 := Lib.hid (hG.later kA)
      have BC := Lib.hid (BA.out _ (hK.trans kA) _ HH.out)
      by_cases k3 : x.2 < 3
      · have SK := Lib.hid (show clL (baF b d) (b.acs.take (j + 1)) = clL (baF b d) (b.acs.take j) by rw [SN.out]; unfold clO; rw [if_neg (fun z => by omega)]; simp)
        have n3 : (x.2 != 3) = true := by rw [bne_iff_ne]; omega
        have n4 : (x.2 != 4) = true := by rw [bne_iff_ne]; omega
        clear SN BC
        go_wp2
        go_roundw
        case rel => exact ⟨j + 1, by omega, by go_num, by rw [SK.out], by rw [SK.out]; exact HG1.out, HK1.out⟩
        case measure => simp [intOf]; omega
      · have kk : ((x.2 != 3) = false) ∨ ((x.2 != 3) = true ∧ (x.2 != 4) = false) := by
          rcases (by omega : x.2 = 3 ∨ x.2 = 4) with e | e <;> simp [e]
        by_cases f0 : balS x.1 d b.ens = 0
        · have SK := Lib.hid (show clL (baF b d) (b.acs.take (j + 1)) = clL (baF b d) (b.acs.take j) by rw [SN.out]; unfold clO; rw [if_neg (fun z => z.2 f0)]; simp)
          rw [f0] at BC
          clear SN z1 z2 f0
          clear k0 k4 k3
          rcases kk with kk | ⟨kk, kk2⟩
          all_goals
            go_wp2_with fail
            refine BC.out.mono ?_
            rintro e w5 ⟨rfl, hK5⟩
            go_wp2
            go_roundw
            case rel => exact ⟨j + 1, by omega, by go_num, by rw [SK.out], by rw [SK.out]; exact HG1.out.later hK5, HK1.out.trans hK5⟩
            case measure => simp [intOf]; omega
        · have f1 : (balS x.1 d b.ens == 0) = false := by simpa using f0
          have SK := Lib.hid (show clL (baF b d) (b.acs.take (j + 1)) = clL (baF b d) (b.acs.take j) ++ [(x.1, -(balS x.1 d b.ens))] by rw [SN.out]; unfold clO; rw [if_pos ⟨Int.not_lt.1 k3, f0⟩]; rfl)
          have SK2 := Lib.hid (show sumL (clL (baF b d) (b.acs.take (j + 1))) = sumL (clL (baF b d) (b.acs.take j)) - balS x.1 d b.ens by rw [SK.out, sumL_append]; simp [sumL]; omega)
          have w1' : IntKind.i64.wrap (-(balS x.1 d b.ens)) = -(balS x.1 d b.ens) := IntWalk.i64_in _ (by omega)
          have w2' : IntKind.i64.wrap (sumL (clL (baF b d) (b.acs.take j)) - balS x.1 d b.ens) = sumL (clL (baF b d) (b.acs.take j)) - balS x.1 d b.ens := IntWalk.i64_in _ (by omega)
          have HX := Lib.hid (PBx.new wr x 54)
          clear SN
          generalize balS x.1 d b.ens = bal at *
          generalize clL (baF b d) (b.acs.take j) = m at *
          generalize sumL m = sm at *
          clear k0 k4 k3
          rcases kk with kk | ⟨kk, kk2⟩
          all_goals
            go_wp2_with fail
            refine BC.out.mono ?_
            rintro e w5 ⟨rfl, hK5⟩
            obtain ⟨x0, x1, x2⟩ := HX.out.later hK5
            have hG3 := HG1.out.later hK5
            have hK3 := HK1.out.trans hK5
            have hG4 := hG3.later ((Kept.refl w5).alloc (.cells #[.string x.1, .int .i64 (-bal)] 48))
            have hK4 := hK3.alloc (.cells #[.string x.1, .int .i64 (-bal)] 48)
            have N0 := Lib.hid (show (w5.alloc (.cells #[.string x.1, .int .i64 (-bal)] 48)).cell? ⟨w5.heap.size, 0, none⟩ = some (.string x.1) by simp)
            have N1 := Lib.hid (show (w5.alloc (.cells #[.string x.1, .int .i64 (-bal)] 48)).cell? ⟨w5.heap.size, 1, none⟩ = some (.int .i64 (-bal)) by simp)
            clear b0 b1 b2 b3 c0 c1 plt
            go_wp2_with (at_builtin; refine app_pr 48 34 pairLine Tryz.underlying34 rfl _ _ rfl (z := (x.1, -bal)) rfl rfl hG4 N0.out N1.out (by omega) (by have := hK4.size; omega) ?_)
            intro v' w6 hG5 hgr
            have hK6 := hG4.below (Nat.le_refl _) hK4 hgr
            obtain ⟨a5, c5, rfl, _, _⟩ := hG5.form
            clear hG4 hK4 hG3 hK3 hgr x0 x1 x2
            go_wp2
            go_roundw
            case rel => exact ⟨j + 1, by omega, by go_num, by rw [SK2.out], by rw [SK.out]; exact hG5, hK6⟩
            case measure => simp [intOf]; omega
    · obtain rfl : j = b.acs.length := by omega
      clear hlt
      obtain ⟨s1, s2⟩ := SB.out b.acs.length
      have ll := clL_len (baF b d) b.acs
      rw [List.take_length] at hG s1 s2 ⊢
      by_cases s0 : sumL (clL (baF b d) b.acs) = 0
      · have E := Lib.hid (show clA (baF b d) c b.acs = clL (baF b d) b.acs by unfold clA; rw [if_pos s0]; simp)
        rw [s0]
        go_wp2
        go_ret
        exact ⟨ad, cp, by rw [E.out]; rfl, by rw [E.out]; exact hG.mono hle, HK.out.trans hK⟩
      · have E := Lib.hid (show clA (baF b d) c b.acs = clL (baF b d) b.acs ++ [(c, -(sumL (clL (baF b d) b.acs)))] by unfold clA; rw [if_neg s0])
        have s3 : (sumL (clL (baF b d) b.acs) == 0) = false := by simpa using s0
        have w1' : IntKind.i64.wrap (-(sumL (clL (baF b d) b.acs))) = -(sumL (clL (baF b d) b.acs)) := IntWalk.i64_in _ (by omega)
        generalize clL (baF b d) b.acs = m at *
        generalize sumL m = sm at *
        have hG4 := hG.later ((Kept.refl wr).alloc (.cells #[.string c, .int .i64 (-sm)] 48))
        have hK4 := hK.alloc (.cells #[.string c, .int .i64 (-sm)] 48)
        have N0 := Lib.hid (show (wr.alloc (.cells #[.string c, .int .i64 (-sm)] 48)).cell? ⟨wr.heap.size, 0, none⟩ = some (.string c) by simp)
        have N1 := Lib.hid (show (wr.alloc (.cells #[.string c, .int .i64 (-sm)] 48)).cell? ⟨wr.heap.size, 1, none⟩ = some (.int .i64 (-sm)) by simp)
        go_wp2_with (at_builtin; refine app_pr 48 34 pairLine Tryz.underlying34 rfl _ _ rfl (z := (c, -sm)) rfl rfl hG4 N0.out N1.out (by omega) (by have := hK4.size; omega) ?_)
        intro v' w6 hG5 hgr
        have hK6 := hG4.below (Nat.le_refl _) hK4 hgr
        obtain ⟨a5, c5, rfl, _, _⟩ := hG5.form
        clear hG4 hK4 hgr
        go_wp2
        go_ret
        exact ⟨a5, c5, by rw [E.out]; rfl, by rw [E.out]; exact hG5.mono hle, HK.out.trans hK6⟩
end Go.Proofs.YtbaahnafmfjpaaaGreatDoor
