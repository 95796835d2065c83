/-
  The law AcctTree: for every list of accounts and every text it answers true; nothing that was there is turned. Condition: lengths that a machine's memory lets in.
-/
import Derived.Test.YtfckdiaobogdlaaAMathB
import Derived.SizedLaws
namespace Go.Proofs.Ytfckdiaobogdlaa
open Go.RowKit
set_option linter.unusedVariables false

/-- The five accounts of the plain book. -/
def five : List Pr := [(⟨#[49, 48]⟩, 0), (⟨#[50, 48]⟩, 1), (⟨#[51, 48]⟩, 2), (⟨#[52, 48]⟩, 3), (⟨#[53, 48]⟩, 4)]
theorem acE_five : acE five = 0 := by decide +kernel
theorem und_five : undL ⟨#[49]⟩ five = [⟨#[49, 48]⟩] := by decide +kernel
theorem short_five : Shortish five := by
  intro x hx
  simp [five] at hx
  unfold maxLen
  rcases hx with rfl | rfl | rfl | rfl | rfl <;> decide
/-- The plain book. -/
def PlainPost (w : World) (e : Ending) (w' : World) : Prop := ∃ p, e = .returned (.agg #[.slice (some ⟨p, 0, none⟩) 5 5, .slice none 0 0, .int .i64 (-1)]) ∧ w.heap.size ≤ p ∧ PRow w' p 0 five ∧ Kept w w'
theorem five_row (w : World) (p : Nat) (t : TypeId) (hp : w.heap.size = p) : PRow (w.alloc (.cells #[.string ⟨#[49, 48]⟩, .int .i64 0, .string ⟨#[50, 48]⟩, .int .i64 1, .string ⟨#[51, 48]⟩, .int .i64 2, .string ⟨#[52, 48]⟩, .int .i64 3, .string ⟨#[53, 48]⟩, .int .i64 4] t)) p 0 five := by
  subst hp
  refine ⟨by simp, fun j hj => ?_, fun j hj => ?_⟩
  all_goals
    have hj' : j < 5 := hj
    match j, hj' with
    | 0, _ => simp [five]
    | 1, _ => simp [five]
    | 2, _ => simp [five]
    | 3, _ => simp [five]
    | 4, _ => simp [five]
set_option maxHeartbeats 1000000 in
theorem plain_any (w : World) : Calls Try.prog 7 #[] w (PlainPost w) := by
  go_enter Try.func7, Try.ntmps7
  go_wp2
  refine bodyPost_ret (v := .agg #[.slice (some ⟨w.heap.size + 1, 0, none⟩) 5 5, .slice none 0 0, .int .i64 (-1)]) (by simp [results, Try.results7, go_sem]) rfl ⟨w.heap.size + 1, rfl, by omega, five_row _ _ _ (by simp), ((Kept.refl w).alloc _).alloc _⟩
/-- The answer is a text's row of one. -/
theorem one_row (w : World) (s : ByteArray) (t : TypeId) (p : Nat) (hp : w.heap.size = p) : TRow (w.alloc (.cells #[.string s] t)) p 0 [s] := by
  subst hp
  refine ⟨by simp, fun j hj => ?_⟩
  obtain rfl : j = 0 := by simpa using hj
  simp
theorem cat_size (c : ByteArray) (k : Nat) (h : k < 10) : (c ++ dgt k).size = c.size + 1 := by
  have := congrArg List.length (cat_list c (dgt k))
  rw [dgt_list k h, List.length_append, Lib.toList_data, Lib.toList_data, ← Lib.size_eq, ← Lib.size_eq] at this
  exact this
theorem bfield0 (x y z : Value) (w : World) : (Instr.field 29 (.agg #[x, y, z]) 0).run Try.prog w = .ok x w := by kernel_rfl
set_option maxRecDepth 100000 in
set_option maxHeartbeats 4000000 in
theorem acctTree_walk (a : Option Addr) (l : List Pr) (cap : Nat) (c : ByteArray) (w : World) (hA : PArg w a l) (hs : Shortish l) (hn : l.length ≤ maxLen) (hz : c.size ≤ reachBytes) :
    Calls Try.prog 3 #[.slice a l.length cap, .string c] w fun e w' => e = .returned (.bool true) ∧ Kept w w' := by
  have hc : c.size < maxLen := Nat.lt_of_le_of_lt hz (by decide)
  have HA := Lib.hid hA
  have HS := Lib.hid hs
  have HN := Lib.hid hn
  have HC := Lib.hid hc
  have hc' : c.size < 9223372036854775807 := hc
  have hfl := bfield0
  clear hA hs hn hc hz
  go_enter Try.func3, Try.ntmps3
  go_wp2_with fail
  refine (plain_any _).mono ?_
  rintro e w1 ⟨p, rfl, hp, hR, hK1⟩
  go_wp2_with fail
  refine (under_yes (some ⟨p, 0, none⟩) five 5 ⟨#[49]⟩ w1 (.inr ⟨p, 0, rfl, hR⟩) short_five (by decide) (by decide) acE_five).mono ?_
  rw [und_five]
  rintro e w2 ⟨q, hq, rfl, hT, hK2⟩
  have hK3 := hK1.trans hK2
  have k4 := (Kept.refl w2).alloc (.cells #[.string ⟨#[49, 48]⟩] 9)
  have HT := Lib.hid (show TArg (w2.alloc (.cells #[.string ⟨#[49, 48]⟩] 9)) (some ⟨q, 0, none⟩) [⟨#[49, 48]⟩] from .inr ⟨q, 0, rfl, hT.row.later k4⟩)
  have HO := Lib.hid (show TArg (w2.alloc (.cells #[.string ⟨#[49, 48]⟩] 9)) (some ⟨w2.heap.size, 0, none⟩) [⟨#[49, 48]⟩] from .inr ⟨w2.heap.size, 0, rfl, one_row _ _ _ _ rfl⟩)
  have hK4 := hK3.trans k4
  clear hK1 hK2 hK3 k4 hp hR hfl hT
  go_wp2_with fail
  refine (tequal_yes [⟨#[49, 48]⟩] _ _ _ _ _ _ (by decide) rfl HT.out HO.out).mono ?_
  rintro e w3 ⟨rfl, hD⟩
  have hK5 := hK4.trans hD.kept
  clear hK4 hD HT HO hq
  by_cases ok : acE l = 0
  · have OK := Lib.hid ok
    have XX := Lib.hid (under_yes a l cap c w3 (HA.out.later hK5) HS.out HN.out (Nat.le_of_lt HC.out) ok)
    have l24 := acE_24 ok
    have HI := Lib.hid (und_inc (c := c) ok)
    have TA := Lib.hid (tree_all (c := c) ok)
    have tl := und_le c l
    have SB := Lib.hid (fun k (hk : k < 10) => und_sub (c := c) (l := l) hk)
    clear ok
    go_wp2_with fail
    refine (XX.out).mono ?_
    rintro e w4 ⟨q2, hq2, rfl, hT, hK6⟩
    generalize ht : undL c l = t at *
    have HU := Lib.hid ht
    clear ht
    have kb := (Kept.refl w4).alloc (.cells #[.slice (some ⟨q2, 0, none⟩) t.length t.length] 23)
    have hTA : TArg (w4.alloc (.cells #[.slice (some ⟨q2, 0, none⟩) t.length t.length] 23)) (some ⟨q2, 0, none⟩) t := .inr ⟨q2, 0, rfl, hT.row.later kb⟩
    have hVB : VBx (w4.alloc (.cells #[.slice (some ⟨q2, 0, none⟩) t.length t.length] 23)) w4.heap.size (.slice (some ⟨q2, 0, none⟩) t.length t.length) := ⟨by simp, by simp⟩
    have hK7 := (hK5.trans hK6).trans kb
    clear XX hK5 hK6 kb hT hq2
    go_wp2
    generalize w4.alloc (.cells #[.slice (some ⟨q2, 0, none⟩) t.length t.length] 23) = W at *
    generalize w4.heap.size = bx at *
    have HT := Lib.hid hTA
    have HV := Lib.hid hVB
    have HK7 := Lib.hid hK7
    clear hTA hVB hK7
    go_loopw [9, 38] (fun v i wr => ∃ k : Nat, k ≤ 10 ∧ i = .int .i64 k ∧ v = .int .i64 (smT c l k : Nat) ∧ Kept W wr) (fun _ i _ => (10 - intOf i).toNat)
    case atStart => exact ⟨0, by omega, rfl, rfl, Kept.refl _⟩
    case round =>
      obtain ⟨k, hk, rfl, rfl, hK⟩ := hrel
      have sl := smT_le c l k
      have sl2 : smT c l k ≤ 240 := Nat.le_trans sl (Nat.mul_le_mul hk l24)
      clear sl
      by_cases hlt : k < 10
      · have XX := Lib.hid (under_yes a l cap (c ++ dgt k) wr (HA.out.later (HK7.out.trans hK)) HS.out HN.out (by rw [cat_size c k hlt]; exact HC.out) OK.out)
        have HSM := Lib.hid (show smT c l (k + 1) = smT c l k + (undL (c ++ dgt k) l).length from rfl)
        have ul := und_le (c ++ dgt k) l
        have HSB := Lib.hid (SB.out k hlt)
        go_wp2_with fail
        rw [show ByteArray.extract ⟨#[48, 49, 50, 51, 52, 53, 54, 55, 56, 57]⟩ k (k + 1) = dgt k from rfl]
        refine (XX.out).mono ?_
        rintro e w5 ⟨q3, hq3, rfl, hT5, hK8⟩
        generalize undL (c ++ dgt k) l = m at *
        have hK9 := hK.trans hK8
        have hTA : TArg w5 (some ⟨q3, 0, none⟩) m := .inr ⟨q3, 0, rfl, hT5.row⟩
        clear XX hK hK8 hT5 hq3
        go_wp2_with fail
        refine (tcontF_none bx m t (some ⟨q2, 0, none⟩) _ t.length _ _ (by omega) (by omega) hTA (HT.out.later hK9) (HV.out.later hK9) HSB.out).mono ?_
        rintro e w6 ⟨rfl, rfl⟩
        clear hTA HSB
        go_wp2
        go_roundw
        case rel => exact ⟨k + 1, by omega, by go_num, by rw [HSM.out]; go_num, hK9⟩
        case measure => simp [intOf]; omega
      · obtain rfl : k = 10 := by omega
        clear hlt
        have HTR := Lib.hid (HT.out.later hK)
        have hV := HV.out.later hK
        obtain ⟨v0, v1⟩ := id hV
        have HK := Lib.hid (HK7.out.trans hK)
        clear hK HV HT HK7
        go_wp2_with fail
        refine (tcontains_any c t _ _ _ (by omega) HTR.out).mono ?_
        rintro e w5 ⟨rfl, rfl⟩
        cases hm : memB c t
        · have e : smT c l 10 = t.length := by have := TA.out; rw [hm] at this; simpa using this
          rw [e]
          clear e hm TA sl2
          go_wp2_with fail
          refine (tsorted_yes t _ _ _ (by omega) HTR.out HI.out).mono ?_
          rintro e w6 ⟨rfl, hD⟩
          go_wp2
          go_ret
          exact ⟨rfl, HK.out.trans hD.kept⟩
        · have e : smT c l 10 + 1 = t.length := by have := TA.out; rw [hm] at this; simpa using this
          have E := Lib.hid e
          clear e hm TA
          generalize smT c l 10 = z at *
          have e2 : ((z : Int) + 1 == (t.length : Int)) = true := by rw [beq_iff_eq]; have := E.out; omega
          go_wp2_with fail
          refine (tsorted_yes t _ _ _ (by omega) HTR.out HI.out).mono ?_
          rintro e w6 ⟨rfl, hD⟩
          go_wp2
          go_ret
          exact ⟨rfl, HK.out.trans hD.kept⟩
  · have OK := Lib.hid ok
    have O2 : (acE l != 0) = true := by simpa using ok
    have XX := Lib.hid (under_no a l cap c w3 (HA.out.later hK5) HS.out HN.out ok)
    clear ok
    generalize acE l = er at *
    go_wp2_with fail
    refine (XX.out).mono ?_
    rintro e w4 ⟨rfl, hK6⟩
    go_wp2
    go_ret
    exact ⟨rfl, (hK5.trans hK6).alloc _⟩
end Go.Proofs.Ytfckdiaobogdlaa
