import Derived.Test.YtdgiljndoeldcaaLawBookZero
/-
  Keys by numbers, the accounts of the end-to-end tests, and entries posted one by one under keys that are new. No condition but those that each theorem names.
-/
namespace Go.Proofs.Ytdgiljndoeldcaa
set_option linter.unusedVariables false

/-- A digit as text. -/
def dgS (k : Nat) : ByteArray := (⟨#[48, 49, 50, 51, 52, 53, 54, 55, 56, 57]⟩ : ByteArray).extract k (k + 1)
/-- A number below 1000 as text. -/
def dcS (n : Nat) : ByteArray := if n < 10 then dgS n else if n < 100 then dgS (n / 10) ++ dgS (n % 10) else dgS (n / 100) ++ dgS (n / 10 % 10) ++ dgS (n % 10)
theorem dcS1 {n : Nat} (h : n < 10) : dcS n = dgS n := by unfold dcS; rw [if_pos h]
theorem dcS2 {n : Nat} (h : 10 ≤ n) (h2 : n < 100) : dcS n = dcS (n / 10) ++ dcS (n % 10) := by
  rw [dcS1 (n := n / 10) (by omega), dcS1 (n := n % 10) (by omega)]; unfold dcS; rw [if_neg (by omega), if_pos h2]
theorem dcS3 {n : Nat} (h : 100 ≤ n) (h2 : n < 1000) : dcS n = dcS (n / 10) ++ dcS (n % 10) := by
  rw [dcS2 (n := n / 10) (by omega) (by omega), dcS1 (n := n % 10) (by omega), dcS1 (n := n / 10 / 10) (by omega), dcS1 (n := n / 10 % 10) (by omega)]
  unfold dcS; rw [if_neg (by omega), if_neg (by omega), Nat.div_div_eq_div_mul]
theorem dcS_size : ∀ n, n < 1000 → (dcS n).size ≤ 3 := by decide +kernel
/-- The key of a number. -/
def kyS (n : Nat) : ByteArray := ⟨#[107]⟩ ++ dcS n
/-- .. and back. -/
def vlS (s : ByteArray) : Nat := (s.data.toList.drop 1).foldl (fun a c => a * 10 + (c.toNat - 48)) 0
theorem kyS_ok : ∀ n, n < 200 → keyB (kyS n) = true := by decide +kernel
theorem kyS_back : ∀ n, n < 200 → vlS (kyS n) = n := by decide +kernel
theorem kyS_size : ∀ n, n < 200 → (kyS n).size ≤ 12 := by decide +kernel
theorem kyS_inj {m n : Nat} (hm : m < 200) (hn : n < 200) (h : kyS m = kyS n) : m = n := by rw [← kyS_back m hm, h, kyS_back n hn]
abbrev c10 : ByteArray := ⟨#[49, 48]⟩
abbrev c15 : ByteArray := ⟨#[49, 53]⟩
abbrev c20 : ByteArray := ⟨#[50, 48]⟩
abbrev c30 : ByteArray := ⟨#[51, 48]⟩
abbrev c40 : ByteArray := ⟨#[52, 48]⟩
abbrev c50 : ByteArray := ⟨#[53, 48]⟩
/-- The accounts. -/
def topL : List Pr := [(c10, 0), (c15, 0), (c20, 1), (c30, 2), (c40, 3), (c50, 4)]
def topB : Bk := ⟨topL, [], -1⟩
theorem topL_acs : acE topL = 0 := by decide +kernel
/-- Lines that may be in an entry. -/
def OkLs (l : List Pr) : Prop := 2 ≤ l.length ∧ l.length ≤ 12 ∧ (∀ x ∈ l, okLn x) ∧ (l.map Prod.fst).Nodup ∧ sumL l = 0 ∧ ∀ y ∈ l, hasB y.1 topL = true
theorem okE_ky {n : Nat} {d : Int} {l : List Pr} (hn : n < 200) (d0 : 0 ≤ d) (d1 : d ≤ 292193) (h : OkLs l) : OkE topL ⟨kyS n, d, l⟩ := by
  obtain ⟨h1, h2, h3, h4, h5, h6⟩ := h
  exact ⟨enE_iff.2 ⟨by unfold hdE; rw [if_pos (kyS_ok n hn), if_neg (by simp only []; omega)], h1, h2, h3, h4, h5⟩, h6⟩
/-- From one account to another one. -/
def mvL (tc fr : ByteArray) (a : Int) : List Pr := [(tc, a), (fr, -a)]
theorem mvL_ok {tc fr : ByteArray} {a : Int} (h1 : codeB tc = true) (h2 : codeB fr = true) (h3 : tc ≠ fr) (h4 : hasB tc topL = true) (h5 : hasB fr topL = true) (a0 : a ≠ 0) (a1 : -1000000000000 ≤ a) (a2 : a ≤ 1000000000000) : OkLs (mvL tc fr a) := by
  refine ⟨by simp [mvL], by simp [mvL], fun x hx => ?_, ?_, by simp [mvL, sumL]; omega, fun y hy => ?_⟩
  · simp [mvL] at hx
    rcases hx with rfl | rfl
    · exact ⟨h1, a1, a2, a0⟩
    · exact ⟨h2, by simp only []; omega, by simp only []; omega, by simp only []; omega⟩
  · simpa [mvL] using h3
  · simp [mvL] at hy
    rcases hy with rfl | rfl
    · exact h4
    · exact h5
/-- A book of the tests: its keys are of numbers that were used. -/
structure Tp (b : Bk) (P : Nat → Prop) (m : Nat) : Prop where
  good : Good b
  acs : b.acs = topL
  shut : b.shut = -1
  keys : ∀ e ∈ b.ens, ∃ j, j < 200 ∧ P j ∧ e.key = kyS j
  len : b.ens.length ≤ m
theorem Tp.new : Tp topB (fun _ => False) 0 := ⟨⟨topL_acs, .inl rfl, by decide, (fun x hx => by cases hx), List.nodup_nil, trivial⟩, rfl, rfl, (fun e he => by cases he), Nat.le_refl _⟩
theorem Tp.mono {b : Bk} {P Q : Nat → Prop} {m n : Nat} (h : Tp b P m) (hp : ∀ j, P j → Q j) (hm : m ≤ n) : Tp b Q n :=
  ⟨h.good, h.acs, h.shut, fun e he => by obtain ⟨j, a, c, d⟩ := h.keys e he; exact ⟨j, a, hp j c, d⟩, Nat.le_trans h.len hm⟩
/-- One entry more, by a number that was not used. -/
theorem Tp.post {b : Bk} {P : Nat → Prop} {m n : Nat} {d : Int} {l : List Pr} (h : Tp b P m) (hn : n < 200) (hp : ¬ P n) (hm : m < 60) (d0 : 0 ≤ d) (d1 : d ≤ 292193) (hl : OkLs l) :
    poE b ⟨kyS n, d, l⟩ = 0 ∧ poV b ⟨kyS n, d, l⟩ = ⟨b.acs, insE ⟨kyS n, d, l⟩ b.ens, b.shut⟩ ∧ Tp (poV b ⟨kyS n, d, l⟩) (fun j => P j ∨ j = n) (m + 1) := by
  have hk : ∀ e ∈ b.ens, e.key ≠ kyS n := fun e he hk => by
    obtain ⟨j, j2, pj, ej⟩ := h.keys e he
    rw [ej] at hk
    exact hp (kyS_inj j2 hn hk ▸ pj)
  have hlen := h.len
  have ok : poE b ⟨kyS n, d, l⟩ = 0 := poE_new h.good (by rw [h.acs]; exact okE_ky hn d0 d1 hl) hk (by rw [h.shut]; simp only []; omega) (by omega)
  have ev : poV b ⟨kyS n, d, l⟩ = ⟨b.acs, insE ⟨kyS n, d, l⟩ b.ens, b.shut⟩ := by
    unfold poV
    rw [if_neg]
    intro hlt
    obtain ⟨e, he, hke⟩ := kyI_lt.1 hlt
    exact hk e he hke
  obtain ⟨g, _, ha, hs, hmem⟩ := Good.post ok
  refine ⟨ok, ev, ⟨g, ha.trans h.acs, hs.trans h.shut, fun e he => ?_, ?_⟩⟩
  · rcases (hmem e).1 he with rfl | he
    · exact ⟨n, hn, .inr rfl, rfl⟩
    · obtain ⟨j, a, c, dd⟩ := h.keys e he
      exact ⟨j, a, .inl c, dd⟩
  · rw [ev]; simp only [insE_len]; omega
theorem Tp.ba {b : Bk} {P : Nat → Prop} {m : Nat} {c : ByteArray} {d : Int} (h : Tp b P m) (hc : hasB c topL = true) (d0 : 0 ≤ d) (d1 : d ≤ 292193) : baE b c d = 0 :=
  h.good.ba (by rw [h.acs]; exact hc) ((dyB_iff d).2 ⟨d0, d1⟩)
/-- The lines' texts are short. -/
theorem short_two {x y : Pr} (hx : x.1.size ≤ maxLen) (hy : y.1.size ≤ maxLen) : Shortish [x, y] := fun z hz => by
  simp at hz
  rcases hz with rfl | rfl
  · exact hx
  · exact hy
end Go.Proofs.Ytdgiljndoeldcaa

/-
  What the end-to-end tests' own functions return: numbers as texts, keys, entries, the plain book, the first look. No condition but those that each theorem names.
-/

namespace Go.Proofs.Ytdgiljndoeldcaa
open Go.RowKit
set_option linter.unusedVariables false

set_option maxHeartbeats 1000000 in
theorem dec1 (n : Nat) (w : World) (h : n < 10) : Calls Try.prog 86 #[.int .i64 n] w fun e w' => e = .returned (.string (dcS n)) ∧ w = w' := by
  have E := Lib.hid (show (⟨#[48, 49, 50, 51, 52, 53, 54, 55, 56, 57]⟩ : ByteArray).extract n (n + 1) = dcS n by rw [dcS1 h]; rfl)
  have h0 : (n : Int) < 10 := by omega
  have h1 : ¬ (n : Int) < 0 := by omega
  have h2 : (0 : Int) ≤ (n : Int) := by omega
  have h3 : (n : Int) + 1 ≤ 10 := by omega
  go_enter Try.func86, Try.ntmps86
  go_wp2
  go_ret
  exact ⟨by rw [← E.out]; rfl, rfl⟩
theorem ret_str {a b : ByteArray} (h : a = b) : Ending.returned (.string a) = .returned (.string b) := by rw [h]
set_option maxHeartbeats 1000000 in
theorem dec2 (n : Nat) (w : World) (h : 10 ≤ n) (h' : n < 100) : Calls Try.prog 86 #[.int .i64 n] w fun e w' => e = .returned (.string (dcS n)) ∧ w = w' := by
  have E := Lib.hid (dcS2 h h')
  obtain ⟨a, ha⟩ : ∃ a, n / 10 = a := ⟨_, rfl⟩
  obtain ⟨c, hc⟩ : ∃ c, n % 10 = c := ⟨_, rfl⟩
  rw [ha, hc] at E
  have qa : (n : Int) / 10 = (a : Int) := by omega
  have qc : (n : Int) % 10 = (c : Int) := by omega
  have a9 : a < 10 := by omega
  have c9 : c < 10 := by omega
  have h0 : ¬ (n : Int) < 10 := by omega
  have h1 : ¬ (n : Int) < 0 := by omega
  have h2 : (0 : Int) ≤ (n : Int) := by omega
  have z1 := dcS_size a (by omega)
  have z2 := dcS_size c (by omega)
  have z3 : ¬ 9223372036854775807 < (dcS a).size + (dcS c).size := by omega
  clear ha hc z1 z2
  go_enter Try.func86, Try.ntmps86
  go_wp2_with fail
  refine (dec1 a _ a9).mono ?_
  rintro e w1 ⟨rfl, rfl⟩
  go_wp2_with fail
  refine (dec1 c _ c9).mono ?_
  rintro e w1 ⟨rfl, rfl⟩
  go_wp2
  go_ret
  exact ⟨by rw [E.out]; rfl, rfl⟩
set_option maxHeartbeats 1000000 in
theorem dec3 (n : Nat) (w : World) (h : 100 ≤ n) (h' : n < 1000) : Calls Try.prog 86 #[.int .i64 n] w fun e w' => e = .returned (.string (dcS n)) ∧ w = w' := by
  have E := Lib.hid (dcS3 h h')
  obtain ⟨a, ha⟩ : ∃ a, n / 10 = a := ⟨_, rfl⟩
  obtain ⟨c, hc⟩ : ∃ c, n % 10 = c := ⟨_, rfl⟩
  rw [ha, hc] at E
  have qa : (n : Int) / 10 = (a : Int) := by omega
  have qc : (n : Int) % 10 = (c : Int) := by omega
  have a9 : 10 ≤ a := by omega
  have a99 : a < 100 := by omega
  have c9 : c < 10 := by omega
  have h0 : ¬ (n : Int) < 10 := by omega
  have h1 : ¬ (n : Int) < 0 := by omega
  have h2 : (0 : Int) ≤ (n : Int) := by omega
  have z1 := dcS_size a (by omega)
  have z2 := dcS_size c (by omega)
  have z3 : ¬ 9223372036854775807 < (dcS a).size + (dcS c).size := by omega
  clear ha hc z1 z2
  go_enter Try.func86, Try.ntmps86
  go_wp2_with fail
  refine (dec2 a _ a9 a99).mono ?_
  rintro e w1 ⟨rfl, rfl⟩
  go_wp2_with fail
  refine (dec1 c _ c9).mono ?_
  rintro e w1 ⟨rfl, rfl⟩
  go_wp2
  go_ret
  exact ⟨by rw [E.out]; rfl, rfl⟩
theorem dec_any (n : Nat) (w : World) (h : n < 1000) : Calls Try.prog 86 #[.int .i64 n] w fun e w' => e = .returned (.string (dcS n)) ∧ w = w' := by
  by_cases h1 : n < 10
  · exact dec1 n w h1
  · by_cases h2 : n < 100
    · exact dec2 n w (by omega) h2
    · exact dec3 n w (by omega) h
set_option maxHeartbeats 1000000 in
theorem tkey_any (n : Nat) (w : World) (h : n < 200) : Calls Try.prog 65 #[.int .i64 n] w fun e w' => e = .returned (.string (kyS n)) ∧ w = w' := by
  have z1 := dcS_size n (by omega)
  have z3 : ¬ 9223372036854775807 < 1 + (dcS n).size := by omega
  go_enter Try.func65, Try.ntmps65
  go_wp2_with fail
  refine (dec_any n _ (by omega)).mono ?_
  rintro e w1 ⟨rfl, rfl⟩
  go_wp2
  go_ret
  exact ⟨rfl, rfl⟩
/-- An entry of two lines in memory of its own. -/
def MvPost (w : World) (k : ByteArray) (d : Int) (l : List Pr) (e : Ending) (w' : World) : Prop :=
  ∃ p, w.heap.size ≤ p ∧ e = .returned (enV k d (some ⟨p, 0, none⟩) 2 2) ∧ POwn w' p l ∧ Kept w w'
theorem mv_own (w : World) (p : Nat) (t : TypeId) (x y : Pr) (hp : w.heap.size = p) : POwn (w.alloc (.cells #[.string x.1, .int .i64 x.2, .string y.1, .int .i64 y.2] t)) p [x, y] := by
  subst hp
  refine ⟨⟨by simp, fun j hj => ?_, fun j hj => ?_⟩, fun o => ?_⟩
  · match j, hj with
    | 0, _ => simp
    | 1, _ => simp
  · match j, hj with
    | 0, _ => simp
    | 1, _ => simp
  · simp
set_option maxHeartbeats 1000000 in
theorem moved_any (n : Nat) (d a : Int) (tc fr : ByteArray) (w : World) (h : n < 200) (a1 : -1000000000000 ≤ a) (a2 : a ≤ 1000000000000) :
    Calls Try.prog 35 #[.int .i64 n, .int .i64 d, .int .i64 a, .string tc, .string fr] w (MvPost w (kyS n) d (mvL tc fr a)) := by
  have wr1 : IntKind.i64.wrap (-a) = -a := IntWalk.i64_in _ (by omega)
  go_enter Try.func35, Try.ntmps35
  go_wp2_with fail
  refine (tkey_any n _ h).mono ?_
  rintro e w1 ⟨rfl, rfl⟩
  have hO := Lib.hid (mv_own (w.alloc (.cells #[.string (kyS n), .int .i64 d, .slice (some ⟨w.heap.size + 1, 0, none⟩) 2 2] 64)) (w.heap.size + 1) 97 (tc, a) (fr, -a) (by simp))
  go_wp2
  exact bodyPost_ret (v := enV (kyS n) d (some ⟨w.heap.size + 1, 0, none⟩) 2 2) (by simp [results, Try.results35, go_sem]) rfl ⟨w.heap.size + 1, by omega, rfl, hO.out, ((Kept.refl w).alloc _).alloc _⟩
theorem tplain_row (w : World) (p : Nat) (t : TypeId) (hp : w.heap.size = p) : PRow (w.alloc (.cells #[.string c10, .int .i64 0, .string c15, .int .i64 0, .string c20, .int .i64 1, .string c30, .int .i64 2, .string c40, .int .i64 3, .string c50, .int .i64 4] t)) p 0 topL := by
  subst hp
  refine ⟨by simp, fun j hj => ?_, fun j hj => ?_⟩
  all_goals
    have hj' : j < 6 := hj
    match j, hj' with
    | 0, _ => simp [topL]
    | 1, _ => simp [topL]
    | 2, _ => simp [topL]
    | 3, _ => simp [topL]
    | 4, _ => simp [topL]
    | 5, _ => simp [topL]
theorem topL_sh : Shortish topL := by
  intro x hx
  simp [topL] at hx
  rcases hx with rfl | rfl | rfl | rfl | rfl | rfl <;> (unfold maxLen; decide)
set_option maxHeartbeats 1000000 in
theorem tplain_any (w : World) : Calls Try.prog 33 #[] w (PlPost w topB) := by
  go_enter Try.func33, Try.ntmps33
  go_wp2
  exact bodyPost_ret (v := bkV ⟨some ⟨w.heap.size + 1, 0, none⟩, 6, none, 0⟩ topB) (by simp [results, Try.results33, go_sem, topB, topL]) rfl
    ⟨_, rfl, ⟨.inr ⟨_, _, rfl, tplain_row _ _ _ (by simp)⟩, topL_sh, (show (6 : Nat) ≤ 6 from Nat.le_refl _), (show (6 : Nat) ≤ maxLen by unfold maxLen; decide), .inl rfl, (fun x hx => by cases hx), (show (0 : Nat) ≤ 0 from Nat.le_refl _), (show (0 : Nat) ≤ maxLen by unfold maxLen; decide)⟩, ((Kept.refl w).alloc _).alloc _⟩
/-- A moved entry in memory. -/
theorem mv_em {w : World} {p n : Nat} {d a : Int} {tc fr : ByteArray} (hn : n < 200) (h : POwn w p (mvL tc fr a)) (h1 : tc.size ≤ maxLen) (h2 : fr.size ≤ maxLen) : EtM w ⟨kyS n, d, mvL tc fr a⟩ (some ⟨p, 0, none⟩) 2 :=
  ⟨by have := kyS_size n hn; unfold maxLen; simp only []; omega, (show 2 ≤ maxLen by unfold maxLen; decide), .inr ⟨p, 0, rfl, h.row⟩, short_two h1 h2, (show 2 ≤ 2 from Nat.le_refl _), (show 2 ≤ maxLen by unfold maxLen; decide)⟩
/-- The first look. -/
def bgE : Et := ⟨kyS 1, 5, mvL c10 c40 7⟩
theorem bg_ok : poE topB bgE = 0 := by decide +kernel
theorem bg_po : poV topB bgE = ⟨topL, [bgE], -1⟩ := by
  unfold poV
  rw [if_neg (by decide)]
  rfl
theorem bg_ba : baE ⟨topL, [bgE], -1⟩ c10 5 = 0 := by decide +kernel
theorem bg_bal : balS c10 5 [bgE] = 7 := by decide +kernel
set_option maxHeartbeats 2000000 in
theorem tbegun_any (w : World) : Calls Try.prog 32 #[] w fun e w' => e = .returned (.bool true) ∧ Kept w w' := by
  go_enter Try.func32, Try.ntmps32
  go_wp2_with fail
  refine (tplain_any _).mono ?_
  rintro e w1 ⟨q, rfl, hM, hK1⟩
  go_wp2_with fail
  refine (moved_any 1 5 7 c10 c40 _ (by decide) (by decide) (by decide)).mono ?_
  rintro e w2 ⟨p, hp, rfl, hR, hK2⟩
  have PY := Lib.hid (post_yes q topB bgE (some ⟨p, 0, none⟩) 2 w2 (hM.later hK2) (mv_em (by decide) hR (by unfold maxLen; decide) (by unfold maxLen; decide)) bg_ok)
  rw [bg_po] at PY
  go_wp2_with fail
  refine PY.out.mono ?_
  rintro e w3 ⟨q3, rfl, hF, hK3⟩
  have k4 := (Kept.refl w3).alloc (bkO q3 ⟨topL, [bgE], -1⟩)
  have HM4 := Lib.hid (hF.m.later k4)
  have BA := Lib.hid (bal_yes q3 ⟨topL, [bgE], -1⟩ c10 5 _ HM4.out bg_ba)
  rw [bg_bal] at BA
  have hK4 := hK1.trans (hK2.trans (hK3.trans k4))
  clear hM hR hF hK1 hK2 hK3
  go_wp2_with fail
  refine BA.out.mono ?_
  rintro e w5 ⟨rfl, hK5⟩
  go_wp2
  go_ret
  exact ⟨rfl, hK4.trans hK5⟩
/-- What talkeep's Within makes of a number, of any size. -/
theorem wnV_eqL (k n : Int) (h0 : 1 ≤ n) (h1 : n ≤ 1000000000000000000) : wrap64 ((IntKind.u64.wrap k).tmod n) = wnV k n := by
  have h2 : 0 ≤ IntKind.u64.wrap k := by rw [IntKind.wrap_u64]; omega
  have h3 : (IntKind.u64.wrap k).tmod n = wnV k n := Int.tmod_eq_emod_of_nonneg h2
  obtain ⟨h4, h5⟩ := wnV_bd k h0
  rw [h3]; unfold wrap64; omega
set_option maxHeartbeats 400000 in
theorem wnL_any (k n : Int) (w : World) (h0 : 1 ≤ n) (h1 : n ≤ 1000000000000000000) :
    Calls Try.prog 27 #[.int .i64 k, .int .i64 n] w fun e w' => e = .returned (.int .i64 (wnV k n)) ∧ w = w' := by
  have E := Lib.hid (wnV_eqL k n h0 h1)
  go_enter Try.func27, Try.ntmps27
  go_wp2
  go_ret
  exact ⟨ret_int E.out, rfl⟩
end Go.Proofs.Ytdgiljndoeldcaa
