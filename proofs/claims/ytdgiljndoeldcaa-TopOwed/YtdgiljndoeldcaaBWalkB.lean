/-
  What package entry's Check returns. No condition but those that each theorem names.
-/
import Derived.Test.YtdgiljndoeldcaaBWalkA
namespace Go.Proofs.Ytdgiljndoeldcaa
open Go.RowKit
set_option linter.unusedVariables false

/-- The sum of the amounts. -/
def sumL : List Pr → Int
  | [] => 0
  | x :: r => x.2 + sumL r
theorem sumL_append : ∀ l m : List Pr, sumL (l ++ m) = sumL l + sumL m
  | [], m => by simp [sumL]
  | x :: r, m => by rw [List.cons_append, sumL, sumL, sumL_append r m]; omega
/-- The first error of lines behind others. -/
def lnsE (done : List Pr) : List Pr → Int
  | [] => 0
  | x :: r => if lnE x done = 0 then lnsE (done ++ [x]) r else lnE x done
/-- The error of lines, not too many. -/
def tlE (l : List Pr) : Int := if lnsE [] l = 0 then (if l.length < 2 ∨ sumL l ≠ 0 then 7 else 0) else lnsE [] l
theorem tlE_err {l : List Pr} {er : Int} (h : lnsE [] l = er) (h0 : er ≠ 0) : tlE l = er := by unfold tlE; rw [h, if_neg h0]
theorem tlE_sum {l : List Pr} (h : lnsE [] l = 0) (g : l.length < 2 ∨ sumL l ≠ 0) : tlE l = 7 := by unfold tlE; rw [if_pos h, if_pos g]
theorem tlE_ok {l : List Pr} (h : lnsE [] l = 0) (g : ¬ l.length < 2) (g2 : sumL l = 0) : tlE l = 0 := by
  unfold tlE; rw [if_pos h, if_neg]; rintro (h | h)
  · exact g h
  · exact h g2
/-- P32: the error of an entry. -/
def enE (k : ByteArray) (d : Int) (l : List Pr) : Int :=
  if hdE k d = 0 then (if 12 < l.length then 2 else tlE l) else hdE k d
theorem lnE_ok {x : Pr} {l : List Pr} (h : lnE x l = 0) : codeB x.1 = true ∧ -1000000000000 ≤ x.2 ∧ x.2 ≤ 1000000000000 ∧ x.2 ≠ 0 ∧ hasB x.1 l = false := by
  unfold lnE at h
  split at h
  · rename_i c
    split at h
    · cases h
    · rename_i g
      split at h
      · cases h
      · rename_i e
        exact ⟨c, by omega, by omega, by omega, by simpa using e⟩
  · cases h
/-- A struct of an entry, in a box of its own. -/
structure EBx (w : World) (p : Nat) (k : ByteArray) (d : Int) (v : Value) : Prop where
  lt : p < w.heap.size
  c0 : w.cell? ⟨p, 0, none⟩ = some (.string k)
  c1 : w.cell? ⟨p, 1, none⟩ = some (.int .i64 d)
  c2 : w.cell? ⟨p, 2, none⟩ = some v
theorem EBx.later {w w' : World} {p : Nat} {k : ByteArray} {d : Int} {v : Value} (h : EBx w p k d v) (q : Kept w w') : EBx w' p k d v :=
  ⟨Nat.lt_of_lt_of_le h.lt q.le, (q.rd.1 _ _ h.lt).trans h.c0, (q.rd.1 _ _ h.lt).trans h.c1, (q.rd.1 _ _ h.lt).trans h.c2⟩
theorem EBx.new (w : World) (k : ByteArray) (d : Int) (v : Value) (t : TypeId) : EBx (w.alloc (.cells #[.string k, .int .i64 d, v] t)) w.heap.size k d v := ⟨by simp, by simp, by simp, by simp⟩
abbrev enV (k : ByteArray) (d : Int) (a : Option Addr) (n cap : Nat) : Value := .agg #[.string k, .int .i64 d, .slice a n cap]
set_option maxHeartbeats 1000000 in
theorem echeck_head (k : ByteArray) (d : Int) (a : Option Addr) (l : List Pr) (cap : Nat) (w : World) (hs : k.size ≤ maxLen) (h : hdE k d ≠ 0) :
    Calls Try.prog 55 #[enV k d a l.length cap] w fun e w' => e = .returned (.int .i64 (hdE k d)) ∧ Kept w w' := by
  have hK := (Kept.refl w).alloc (.cells #[.string k, .int .i64 d, .slice a l.length cap] 64)
  have H : (hdE k d != 0) = true := by simpa using h
  clear h
  go_enter Try.func55, Try.ntmps55
  go_wp2_with fail
  refine (head_any _ _ _ hs).mono ?_
  rintro e w1 ⟨rfl, rfl⟩
  go_wp2
  go_ret
  exact ⟨rfl, hK⟩
set_option maxHeartbeats 1000000 in
theorem echeck_large (k : ByteArray) (d : Int) (a : Option Addr) (l : List Pr) (cap : Nat) (w : World) (hs : k.size ≤ maxLen) (h : hdE k d = 0) (hl : 12 < l.length) (hn : l.length ≤ maxLen) :
    Calls Try.prog 55 #[enV k d a l.length cap] w fun e w' => e = .returned (.int .i64 2) ∧ Kept w w' := by
  have hK := (Kept.refl w).alloc (.cells #[.string k, .int .i64 d, .slice a l.length cap] 64)
  have H := Lib.hid h
  clear h
  unfold maxLen at hn
  go_enter Try.func55, Try.ntmps55
  go_wp2_with fail
  refine (head_any _ _ _ hs).mono ?_
  rintro e w1 ⟨rfl, rfl⟩
  rw [H.out]
  go_wp2
  go_ret
  exact ⟨rfl, hK⟩
theorem take_len {l : List Pr} {k : Nat} (h : k ≤ l.length) : (l.take k).length = k := by rw [List.length_take]; omega
theorem PArg.take {w : World} {a : Option Addr} {l : List Pr} (h : PArg w a l) (k : Nat) : PArg w a (l.take k) := by
  rcases h with h | ⟨p, off, e, h⟩
  · exact .inl (by rw [h]; simp)
  · refine .inr ⟨p, off, e, h.lt, fun j hj => ?_, fun j hj => ?_⟩
    · rw [List.length_take] at hj
      rw [List.getElem_take]; exact h.c0 j (by omega)
    · rw [List.length_take] at hj
      rw [List.getElem_take]; exact h.c1 j (by omega)
theorem three_later {V w' : World} {q b : Nat} {x : Pr} {v : Value} (h1 : q < V.heap.size) (h2 : b < V.heap.size) (c0 : V.cell? ⟨q, 0, none⟩ = some (.string x.1)) (c1 : V.cell? ⟨q, 1, none⟩ = some (.int .i64 x.2)) (c2 : V.cell? ⟨b, 2, none⟩ = some v) (k : Kept V w') :
    Kept V w' ∧ w'.cell? ⟨q, 0, none⟩ = some (.string x.1) ∧ w'.cell? ⟨q, 1, none⟩ = some (.int .i64 x.2) ∧ w'.cell? ⟨b, 2, none⟩ = some v :=
  ⟨k, (k.rd.1 _ _ h1).trans c0, (k.rd.1 _ _ h1).trans c1, (k.rd.1 _ _ h2).trans c2⟩
set_option maxHeartbeats 4000000 in
theorem echeck_in (k : ByteArray) (d : Int) (a : Option Addr) (l : List Pr) (cap : Nat) (w : World) (hs : k.size ≤ maxLen) (h : hdE k d = 0) (hl : l.length ≤ 12) (hA : PArg w a l) (hS : Shortish l) (hc : l.length ≤ cap) (hcm : cap ≤ maxLen) :
    Calls Try.prog 55 #[enV k d a l.length cap] w fun e w' => e = .returned (.int .i64 (tlE l)) ∧ Kept w w' := by
  have hK := (Kept.refl w).alloc (.cells #[.string k, .int .i64 d, .slice a l.length cap] 64)
  have hB := EBx.new w k d (.slice a l.length cap) 64
  have H := Lib.hid h
  have HA := Lib.hid hA
  have HS := Lib.hid hS
  unfold maxLen at hcm
  clear h hA hS
  go_enter Try.func55, Try.ntmps55
  go_wp2_with fail
  refine (head_any _ _ _ hs).mono ?_
  rintro e w1 ⟨rfl, rfl⟩
  rw [H.out]
  clear H
  go_wp2
  have HK0 := Lib.hid hK
  have HB0 := Lib.hid hB
  generalize hW : w.alloc (.cells #[.string k, .int .i64 d, .slice a l.length cap] 64) = W at *
  clear hK hB hW
  generalize w.heap.size = b at *
  go_loopw [4, 23] (fun s i wr => ∃ (j : Nat), j ≤ l.length ∧ i = .int .i64 j ∧ s = .int .i64 (sumL (l.take j)) ∧ Hid (lnsE [] l = lnsE (l.take j) (l.drop j)) ∧ -1000000000000 * (j : Int) ≤ sumL (l.take j) ∧ sumL (l.take j) ≤ 1000000000000 * (j : Int) ∧ Kept W wr) (fun _ i _ => l.length - (intOf i).toNat)
  case atStart => exact ⟨0, Nat.zero_le _, rfl, rfl, Lib.hid rfl, by simp [sumL], by simp [sumL], Kept.refl _⟩
  case round =>
    obtain ⟨j, hj, rfl, rfl, HE, s1, s2, hK⟩ := hrel
    by_cases hlt : j < l.length
    · obtain ⟨p, off, rfl, hR⟩ := (HA.out.later (HK0.out.trans hK)).at hlt
      have c0 := hR.c0 j hlt
      have c1 := hR.c1 j hlt
      have plt := hR.lt
      have HD := Lib.hid (drop_at l j hlt)
      have HT := Lib.hid (List.take_succ_eq_append_getElem hlt)
      have hz := HS.out l[j] (List.getElem_mem _)
      obtain ⟨b0, b1, b2, b3⟩ := HB0.out.later hK
      clear hR
      generalize l[j] = x at *
      have hX := PBx.new wr x 97
      have kA := (Kept.refl wr).alloc (.cells #[.string x.1, .int .i64 x.2] 97)
      have hB1 := (HB0.out.later hK).later kA
      have hK1 := hK.trans kA
      have HP := Lib.hid (((HA.out.later (HK0.out.trans hK)).later kA).take j)
      have tl := take_len hj
      have TL := Lib.hid tl
      clear tl
      obtain ⟨d0, d1, d2, d3⟩ := id hB1
      obtain ⟨x0, x1, x2⟩ := id hX
      go_wp2_with fail
      generalize wr.alloc (.cells #[.string x.1, .int .i64 x.2] 97) = V at *
      generalize wr.heap.size = q at *
      clear c0 c1 plt b0 b1 b2 b3 d1 d2 kA hK hX hB1
      have g0 : (0 : Int) ≤ (j : Int) := by omega
      have g1 : (j : Int) ≤ (cap : Int) := by omega
      go_region_held3 (fun w' => Kept V w' ∧ w'.cell? ⟨q, 0, none⟩ = some (.string x.1) ∧ w'.cell? ⟨q, 1, none⟩ = some (.int .i64 x.2) ∧ w'.cell? ⟨b, 2, none⟩ = some (.slice (some ⟨p, off, none⟩) l.length cap))
        (first | exact three_later x0 d0 x1 x2 d3 (Kept.refl V).drew | exact three_later x0 d0 x1 x2 d3 hK)
        (first | (go_at_call 80; refine (line_any x (l.take j) _ _ _ _ hz (by rw [TL.out]; omega) TL.out (HP.out.later (And.left (by assumption)))).mono ?_; rintro e w' ⟨rfl, hk⟩; have hK := Kept.trans (a := V) (And.left (by assumption)) hk; clear hk))
      rename_i hHeld
      obtain ⟨_, y0, y1, y2⟩ := hHeld
      have ylt : q < w'.heap.size := Nat.lt_of_lt_of_le x0 hK.le
      have hK2 := hK1.trans hK
      have HX := Lib.hid (show lnsE (l.take j) (x :: l.drop (j + 1)) = if lnE x (l.take j) = 0 then lnsE (l.take j ++ [x]) (l.drop (j + 1)) else lnE x (l.take j) from rfl)
      have HSM := Lib.hid (show sumL (l.take (j + 1)) = sumL (l.take j) + x.2 by rw [HT.out, sumL_append]; simp [sumL])
      clear x0 x1 x2 d0 d3 hK hK1 HP
      by_cases er : lnE x (l.take j) = 0
      · obtain ⟨_, e1, e2, _, _⟩ := lnE_ok er
        have ER := Lib.hid er
        rw [er]
        clear er
        go_wp2
        go_roundw
        case rel => exact ⟨j + 1, by omega, by go_num, by rw [HSM.out], Lib.hid (by rw [HE.out, HD.out, HX.out, if_pos ER.out, HT.out]), by rw [HSM.out]; omega, by rw [HSM.out]; omega, hK2⟩
        case measure => simp [intOf]; omega
      · have ER := Lib.hid er
        have E2 : (lnE x (l.take j) != 0) = true := by simpa using er
        have E3 := Lib.hid (show lnsE [] l = lnE x (l.take j) by rw [HE.out, HD.out, HX.out, if_neg er])
        clear er HX HE
        generalize lnE x (l.take j) = er at *
        go_wp2
        go_ret
        exact ⟨ret_int (tlE_err E3.out ER.out).symm, HK0.out.trans hK2⟩
    · obtain rfl : j = l.length := by omega
      clear hlt
      obtain ⟨b0, b1, b2, b3⟩ := HB0.out.later hK
      have HZ := Lib.hid (show lnsE [] l = 0 by rw [HE.out, List.drop_length]; rfl)
      have HL := Lib.hid (show sumL (l.take l.length) = sumL l by rw [List.take_length])
      have HK := Lib.hid (HK0.out.trans hK)
      rw [HL.out] at *
      clear HE hK HL
      by_cases l2 : l.length < 2
      · have l3 : (l.length : Int) < 2 := by omega
        go_wp2
        go_ret
        exact ⟨ret_int (tlE_sum HZ.out (.inl (by omega))).symm, HK.out⟩
      · have l3 : ¬ (l.length : Int) < 2 := by omega
        by_cases sz : sumL l = 0
        · have SZ := Lib.hid sz
          rw [sz]
          clear sz
          go_wp2
          go_ret
          exact ⟨ret_int (tlE_ok HZ.out (by omega) SZ.out).symm, HK.out⟩
        · have SZ := Lib.hid sz
          have sz2 : (sumL l != 0) = true := by simpa using sz
          have ZS := Lib.hid (show sumL l ≠ 0 from SZ.out)
          clear sz SZ
          generalize hz9 : sumL l = z at s1 s2 sz2 ⊢
          clear hz9
          go_wp2
          go_ret
          exact ⟨ret_int (tlE_sum HZ.out (.inr ZS.out)).symm, HK.out⟩
/-- What package entry's Check returns. -/
theorem echeck_any (k : ByteArray) (d : Int) (a : Option Addr) (l : List Pr) (cap : Nat) (w : World) (hs : k.size ≤ maxLen) (hn : l.length ≤ maxLen) (hA : PArg w a l) (hS : Shortish l) (hc : l.length ≤ cap) (hcm : cap ≤ maxLen) :
    Calls Try.prog 55 #[enV k d a l.length cap] w fun e w' => e = .returned (.int .i64 (enE k d l)) ∧ Kept w w' := by
  unfold enE
  by_cases h : hdE k d = 0
  · rw [if_pos h]
    by_cases hl : 12 < l.length
    · rw [if_pos hl]; exact echeck_large k d a l cap w hs h hl hn
    · rw [if_neg hl]; exact echeck_in k d a l cap w hs h (by omega) hA hS hc hcm
  · rw [if_neg h]; exact echeck_head k d a l cap w hs h
end Go.Proofs.Ytdgiljndoeldcaa
