/-
  What age.Pay returns. No condition but those that each theorem names.
-/
import Derived.Test.YtdgiljndoeldcaaGDel
namespace Go.Proofs.Ytdgiljndoeldcaa
open Go.RowKit Go.Sort Go.WideShapes
set_option linter.unusedVariables false

/-- P47: its error. -/
def pyE (l : List Mv) (n : Int) : Int := if itE l = 0 then (if 0 ≤ n ∧ n ≤ 1000000000000 then 0 else 1) else itE l
theorem pyE_iff {l : List Mv} {n : Int} : pyE l n = 0 ↔ ItOk l ∧ 0 ≤ n ∧ n ≤ 1000000000000 := by
  rw [← itE_iff]
  unfold pyE
  by_cases h : itE l = 0
  · rw [if_pos h]
    by_cases k : 0 ≤ n ∧ n ≤ 1000000000000
    · rw [if_pos k]; exact ⟨fun _ => ⟨h, k⟩, fun _ => rfl⟩
    · rw [if_neg k]; exact ⟨fun e => (by cases e), fun e => absurd e.2 k⟩
  · rw [if_neg h]; exact ⟨fun e => absurd e h, fun e => absurd e.1 h⟩
/-- A list of items that the call hands back: it lies in memory of the call's own. -/
structure ItsRet (B w : World) (a : Option Addr) (c : Nat) (m : List Mv) : Prop where
  le : m.length ≤ c
  max : c ≤ maxLen
  nil : a = none → c = 0
  row : m = [] ∨ ∃ g, a = some ⟨g, 0, none⟩ ∧ B.heap.size ≤ g ∧ IL w g m
theorem ItsRet.arg {B w : World} {a : Option Addr} {c : Nat} {m : List Mv} (h : ItsRet B w a c m) : JArg eP w a m := by
  rcases h.row with h | ⟨g, rfl, _, h⟩
  · exact .inl h
  · exact h.arg
theorem ItsRet.later {B w w' : World} {a : Option Addr} {c : Nat} {m : List Mv} (h : ItsRet B w a c m) (k : Kept w w') : ItsRet B w' a c m := by
  refine ⟨h.le, h.max, h.nil, ?_⟩
  rcases h.row with h | ⟨g, rfl, b, h⟩
  · exact .inl h
  · exact .inr ⟨g, rfl, b, h.later k⟩
def PayNone (w : World) (E : Int) (e : Ending) (w' : World) : Prop := e = .returned (.tuple #[.slice none 0 0, .int .i64 0, .int .i64 E]) ∧ Kept w w'
def PayM (w : World) (m : List Mv) (n : Int) (e : Ending) (w' : World) : Prop :=
  ∃ a c, e = .returned (.tuple #[.slice a (payL m n).length c, .int .i64 (payR m n), .int .i64 0]) ∧ ItsRet w w' a c (payL m n) ∧ Kept w w'
abbrev PayPost (w : World) (l : List Mv) (n : Int) : Ending → World → Prop := PayM w (srtD l) n
set_option maxHeartbeats 4000000 in
theorem pay_no (a : Option Addr) (l : List Mv) (cap : Nat) (n : Int) (w : World) (hn : l.length ≤ maxLen) (hA : JArg eP w a l) (h : pyE l n ≠ 0) :
    Calls Try.prog 15 #[.slice a l.length cap, .int .i64 n] w (PayNone w (pyE l n)) := by
  have AC := Lib.hid (acheck_any a l cap w hn hA)
  clear hA
  by_cases h0 : itE l = 0
  · have h1 : ¬ (0 ≤ n ∧ n ≤ 1000000000000) := fun k => h (pyE_iff.2 ⟨itE_iff.1 h0, k⟩)
    have E : pyE l n = 1 := by unfold pyE; rw [if_pos h0, if_neg h1]
    rw [h0] at AC
    rw [E]
    clear h E h0
    by_cases c : 0 ≤ n
    · have c2 : 1000000000000 < n := by omega
      go_enter Try.func15, Try.ntmps15
      go_wp2_with fail
      refine AC.out.mono ?_
      rintro e w1 ⟨rfl, hK1⟩
      go_wp2
      exact bodyPost_ret (v := .tuple #[.slice none 0 0, .int .i64 0, .int .i64 1]) (by simp [results, Try.results15, go_sem]) rfl ⟨rfl, hK1⟩
    · have c2 : n < 0 := by omega
      go_enter Try.func15, Try.ntmps15
      go_wp2_with fail
      refine AC.out.mono ?_
      rintro e w1 ⟨rfl, hK1⟩
      go_wp2
      exact bodyPost_ret (v := .tuple #[.slice none 0 0, .int .i64 0, .int .i64 1]) (by simp [results, Try.results15, go_sem]) rfl ⟨rfl, hK1⟩
  · have E : pyE l n = itE l := by unfold pyE; rw [if_neg h0]
    rw [E]
    clear h E
    have nb : (itE l != 0) = true := by rw [bne_iff_ne]; exact h0
    generalize itE l = x at *
    clear h0
    go_enter Try.func15, Try.ntmps15
    go_wp2_with fail
    refine AC.out.mono ?_
    rintro e w1 ⟨rfl, hK1⟩
    go_wp2
    exact bodyPost_ret (v := .tuple #[.slice none 0 0, .int .i64 0, .int .i64 x]) (by simp [results, Try.results15, go_sem]) rfl ⟨rfl, hK1⟩
theorem il_amt {w : World} {g : Nat} {s r : List Mv} {x : Mv} (h : IL w g (s ++ x :: r)) (v : Int) : IL (w.setCell ⟨g, s.length * 2 + 1, none⟩ (.int .i64 v)) g (s ++ (x.1, v) :: r) := by
  have hl : (s ++ (x.1, v) :: r).length = (s ++ x :: r).length := by simp
  unfold IL
  rw [hl]
  have lt : s.length < (s ++ x :: r).length := by simp
  refine (IOw.putAmt h lt v).congr fun q hq => ?_
  unfold idn upC
  rw [itC_nat, itC_nat, itC_nat]
  by_cases c : q = s.length
  · subst c
    rw [if_pos rfl, itN_get _ _ lt, itN_get _ _ (by rw [hl]; exact lt), List.getElem_append_right (Nat.le_refl _), List.getElem_append_right (Nat.le_refl _)]
    simp
  · rw [if_neg (by omega), itN_get _ _ hq, itN_get _ _ (by rw [hl]; exact hq)]
    by_cases c2 : q < s.length
    · rw [List.getElem_append_left c2, List.getElem_append_left c2]
    · rw [List.getElem_append_right (by omega), List.getElem_append_right (by omega)]
      obtain ⟨t, ht⟩ : ∃ t, q - s.length = t + 1 := ⟨q - s.length - 1, by omega⟩
      simp only [ht, List.getElem_cons_succ]
/-- The row on the way: the first ones are paid as far as it goes. -/
def pyR (m : List Mv) (n : Int) (k : Nat) : List Mv := payA (m.take k) n ++ m.drop k
theorem pyR_len (m : List Mv) (n : Int) (k : Nat) : (pyR m n k).length = m.length := by
  unfold pyR; rw [List.length_append, payA_len, List.length_take, List.length_drop]; omega
theorem pyR_step {m : List Mv} {n : Int} {k : Nat} {w : World} {g : Nat} (hk : k < m.length) (h : IL w g (pyR m n k)) (v : Int) (hv : v = (m[k]).2 - min (payN (m.take k) n) (m[k]).2) :
    IL (w.setCell ⟨g, k * 2 + 1, none⟩ (.int .i64 v)) g (pyR m n (k + 1)) ∧ payN (m.take (k + 1)) n = payN (m.take k) n - min (payN (m.take k) n) (m[k]).2 := by
  have e : pyR m n k = payA (m.take k) n ++ m[k] :: m.drop (k + 1) := by unfold pyR; rw [List.drop_eq_getElem_cons hk]
  have el : (payA (m.take k) n).length = k := by rw [payA_len, List.length_take]; omega
  obtain ⟨s1, s2⟩ := payA_snoc m[k] (m.take k) n
  rw [← take_snocP m k hk] at s1 s2
  refine ⟨?_, s2⟩
  rw [e] at h
  have h2 := il_amt h v
  rw [el] at h2
  unfold pyR
  rw [s1, List.append_assoc, ← hv]
  exact h2
theorem pyR_at {m : List Mv} {n : Int} {k : Nat} (hk : k < m.length) : itC (pyR m n k) (idn k) = m[k] := by
  have el : (payA (m.take k) n).length = k := by rw [payA_len, List.length_take]; omega
  unfold idn
  rw [itC_nat, itN_get _ _ (by rw [pyR_len]; exact hk)]
  have e : pyR m n k = payA (m.take k) n ++ m[k] :: m.drop (k + 1) := by unfold pyR; rw [List.drop_eq_getElem_cons hk]
  simp only [e]
  rw [List.getElem_append_right (by omega)]
  simp [el]
set_option maxRecDepth 100000 in
set_option maxHeartbeats 8000000 in
theorem pay_some (p off : Nat) (l : List Mv) (cap : Nat) (n : Int) (w : World) (h0 : l ≠ []) (hA : JRow eP w p off l) (ok : ItOk l) (n0 : 0 ≤ n) (n1 : n ≤ 1000000000000) :
    Calls Try.prog 15 #[.slice (some ⟨p, off, none⟩) l.length cap, .int .i64 n] w (PayPost w l n) := by
  have hn : l.length ≤ 40 := ok.len
  have AC := Lib.hid (acheck_any (some ⟨p, off, none⟩) l cap w (by unfold maxLen; omega) (.inr ⟨p, off, rfl, hA⟩))
  rw [itE_iff.2 ok] at AC
  have ml : (srtD l).length = l.length := (srtD_perm l).length_eq
  have HM := Lib.hid (show ∀ x ∈ srtD l, 1 ≤ x.2 ∧ x.2 ≤ 1000000000000 from fun x hx => by
    have := ok.it x ((srtD_perm l).subset hx)
    exact ⟨this.2.2.1, this.2.2.2⟩)
  have HA := Lib.hid hA
  have H0 := Lib.hid h0
  have SD := Lib.hid (fun (g c : Nat) (B w1 : World) (hO : IL w1 g l) (hp : B.heap.size ≤ g) (hK : Kept B w1) => sortD_any l g c B w1 hn hO hp hK)
  clear hA h0 ok
  show Calls Try.prog 15 _ w (PayM w (srtD l) n)
  have HN := Lib.hid (fun k => payN_bd (l := (srtD l).take k) (n := n) (fun x hx => (HM.out x (List.mem_of_mem_take hx)).1) n0)
  have HD := Lib.hid (pay_done (l := srtD l) (n := n) (fun x hx => (HM.out x hx).1) n0)
  generalize srtD l = m at *
  go_enter Try.func15, Try.ntmps15
  go_wp2_with fail
  refine AC.out.mono ?_
  rintro e w1 ⟨rfl, hK1⟩
  clear AC
  have HA1 := Lib.hid (HA.out.later hK1)
  clear HA
  go_wp2_with fail
  refine (clone_items p off cap l _ (by omega) H0.out HA1.out).mono ?_
  rintro e w2 ⟨g, c, rfl, hg, hc1, hc2, hI, hK2⟩
  have hgw : w.heap.size ≤ g := by have := hK1.size; omega
  have hK12 := hK1.trans hK2
  have HI := Lib.hid hI
  clear HA1 hK1 hK2 hI hg
  go_wp2_with fail
  refine (SD.out g c w _ HI.out hgw hK12).mono ?_
  rintro e w3 ⟨rfl, hI3, hK3⟩
  clear HI hK12
  have HI := Lib.hid hI3
  clear hI3
  go_wp2
  go_loopw [9, 31] (fun r i wr => ∃ k : Nat, k ≤ l.length ∧ i = .int .i64 k ∧ r = .int .i64 (payN (m.take k) n) ∧ IL wr g (pyR m n k) ∧ Kept w wr) (fun _ i _ => l.length - (intOf i).toNat)
  case atStart => exact ⟨0, Nat.zero_le _, rfl, rfl, HI.out, hK3⟩
  case round =>
    clear HI hK3
    obtain ⟨k, hk, rfl, rfl, hIr, hKr⟩ := hrel
    by_cases hlt : k < l.length
    · have hlm : k < m.length := by omega
      have c1 := IOw.c1 hIr k (by rw [pyR_len]; exact hlm)
      have f1 := IOw.f1 hIr k (by rw [pyR_len]; exact hlm)
      rw [pyR_at hlm] at c1
      have X := Lib.hid (HM.out m[k] (List.getElem_mem hlm))
      have ST := Lib.hid (fun v hv => pyR_step hlm hIr v hv)
      have NB := Lib.hid (HN.out k)
      clear hIr
      generalize m[k] = x at *
      have x1 := X.out.1
      have x2 := X.out.2
      have n2 := NB.out.1
      have n3 := NB.out.2
      by_cases cc : x.2 < payN (m.take k) n
      · have em : min (payN (m.take k) n) x.2 = x.2 := by omega
        rw [em] at ST
        have S1 := Lib.hid (ST.out 0 (by omega))
        generalize payN (m.take k) n = r at *
        clear ST em
        go_wp2
        go_roundw
        case rel => exact ⟨k + 1, by omega, by go_num, by rw [S1.out.2], S1.out.1, hKr.setAt hgw _⟩
        case measure => simp [intOf]; omega
      · have em : min (payN (m.take k) n) x.2 = payN (m.take k) n := by omega
        rw [em] at ST
        have S1 := Lib.hid (ST.out (x.2 - payN (m.take k) n) rfl)
        have cc' : payN (m.take k) n ≤ x.2 := by omega
        generalize payN (m.take k) n = r at *
        clear ST em
        go_wp2
        go_roundw
        case rel => exact ⟨k + 1, by omega, by go_num, by rw [S1.out.2, Int.sub_self], S1.out.1, hKr.setAt hgw _⟩
        case measure => simp [intOf]; omega
    · obtain rfl : k = l.length := by omega
      have e1 : m.take l.length = m := by rw [← ml, List.take_length]
      have e2 : pyR m n l.length = payA m n := by unfold pyR; rw [e1, ← ml, List.drop_length, List.append_nil]
      rw [e2] at hIr
      rw [e1]
      have DA := Lib.hid (delete_any (payA m n) g c w wr (by rw [payA_len]; omega) (by rw [payA_len]; omega) hc2 hIr hgw hKr)
      rw [payA_len, ml] at DA
      have LP := Lib.hid (show ltP (payA m n) = payL m n from HD.out.1)
      have RP := Lib.hid HD.out.2
      clear hlt hIr hKr HM HN
      go_wp2_with fail
      refine DA.out.mono ?_
      rintro e w4 ⟨rfl, hI4, hK4⟩
      rw [LP.out] at hI4 ⊢
      have LE := Lib.hid (show (payL m n).length ≤ c by rw [← LP.out]; have := ltP_len (payA m n); rw [payA_len] at this; omega)
      go_wp2
      exact bodyPost_ret (v := .tuple #[.slice (some ⟨g, 0, none⟩) (payL m n).length c, .int .i64 (payN m n), .int .i64 0]) (by simp [results, Try.results15, go_sem]) rfl ⟨_, _, by rw [RP.out], ⟨LE.out, hc2, fun e => (by cases e), .inr ⟨g, rfl, hgw, hI4⟩⟩, hK4⟩
set_option maxRecDepth 100000 in
set_option maxHeartbeats 8000000 in
theorem pay_nothing (a : Option Addr) (cap : Nat) (n : Int) (w : World) (z : a = none → cap = 0) (n0 : 0 ≤ n) (n1 : n ≤ 1000000000000) :
    Calls Try.prog 15 #[.slice a 0 cap, .int .i64 n] w (PayPost w [] n) := by
  have AC := Lib.hid (acheck_any a [] cap w (by decide) (.inl rfl))
  have e0 : itE [] = 0 := rfl
  rw [e0, List.length_nil] at AC
  have CN := Lib.hid (fun w => clone_nil a cap z w)
  clear z
  go_enter Try.func15, Try.ntmps15
  go_wp2_with fail
  refine AC.out.mono ?_
  rintro e w1 ⟨rfl, hK1⟩
  clear AC
  go_wp2_with fail
  refine (CN.out _).mono ?_
  rintro e w2 ⟨a2, c, rfl, hc2, hz, hK2⟩
  have HZ := Lib.hid hz
  clear hz
  go_wp2_with fail
  refine (srt0_any a2 c _ _).mono ?_
  rintro e w3 ⟨rfl, rfl⟩
  go_wp2
  go_loopw [9, 31] (fun r i wr => r = .int .i64 n ∧ i = .int .i64 0 ∧ w2 = wr) (fun _ _ _ => 0)
  case atStart => exact ⟨rfl, rfl, rfl⟩
  case round =>
    obtain ⟨rfl, rfl, rfl⟩ := hrel
    go_wp2_with fail
    refine (delete_none a2 c _).mono ?_
    rintro e w4 ⟨rfl, hK4⟩
    go_wp2
    exact bodyPost_ret (v := .tuple #[.slice a2 0 c, .int .i64 n, .int .i64 0]) (by simp [results, Try.results15, go_sem]) rfl ⟨_, _, rfl, ⟨Nat.zero_le _, hc2, HZ.out, .inl rfl⟩, (hK1.trans hK2).trans hK4⟩
theorem pay_yes (a : Option Addr) (l : List Mv) (cap : Nat) (n : Int) (w : World) (hA : JArg eP w a l) (z : a = none → cap = 0) (ok : ItOk l) (n0 : 0 ≤ n) (n1 : n ≤ 1000000000000) :
    Calls Try.prog 15 #[.slice a l.length cap, .int .i64 n] w (PayPost w l n) := by
  by_cases h0 : l = []
  · subst h0
    exact pay_nothing a cap n w z n0 n1
  · obtain ⟨p, off, rfl, hR⟩ := hA.at (j := 0) (List.length_pos_iff.2 h0)
    exact pay_some p off l cap n w h0 hR ok n0 n1
end Go.Proofs.Ytdgiljndoeldcaa
