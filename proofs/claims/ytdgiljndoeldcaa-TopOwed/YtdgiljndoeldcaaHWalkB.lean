/-
  What package book's find, withKey, checkAccounts, checkNew and Check return. No condition but those that each theorem names.
-/
import Derived.Test.YtdgiljndoeldcaaHIns
namespace Go.Proofs.Ytdgiljndoeldcaa
open Go.RowKit
set_option linter.unusedVariables false

/-- A number in a box of its own. -/
structure IBx (w : World) (p : Nat) (n : Int) : Prop where
  lt : p < w.heap.size
  c0 : w.cell? ⟨p, 0, none⟩ = some (.int .i64 n)
theorem IBx.later {w w' : World} {p : Nat} {n : Int} (h : IBx w p n) (k : Kept w w') : IBx w' p n :=
  ⟨Nat.lt_of_lt_of_le h.lt k.le, (k.rd.1 _ _ h.lt).trans h.c0⟩
theorem EBx.newAt {w : World} {p : Nat} (hp : w.heap.size = p) (k : ByteArray) (d : Int) (v : Value) (t : TypeId) : EBx (w.alloc (.cells #[.string k, .int .i64 d, v] t)) p k d v := by subst hp; exact EBx.new w k d v t
theorem SBx.newAt {w : World} {p : Nat} (hp : w.heap.size = p) (s : ByteArray) (t : TypeId) : SBx (w.alloc (.cells #[.string s] t)) p s := by subst hp; exact SBx.new w s t
theorem find_next {P : Et → Bool} {l : List Et} {k : Nat} (h : k < l.length) (hk : l.findIdx P = k + (l.drop k).findIdx P) (hp : P l[k] = false) : l.findIdx P = (k + 1) + (l.drop (k + 1)).findIdx P := by
  rw [hk, List.drop_eq_getElem_cons h, List.findIdx_cons, hp]; simp only [cond_false]; omega
theorem find_here {P : Et → Bool} {l : List Et} {k : Nat} (h : k < l.length) (hk : l.findIdx P = k + (l.drop k).findIdx P) (hp : P l[k] = true) : l.findIdx P = k := by
  rw [hk, List.drop_eq_getElem_cons h, List.findIdx_cons, hp]; rfl
theorem find_end {P : Et → Bool} {l : List Et} (hk : l.findIdx P = l.length + (l.drop l.length).findIdx P) : l.findIdx P = l.length := by rw [hk, List.drop_length]; rfl
/-- What is asked of what is handed to find. -/
def Clo_key (w : World) (bx : Nat) (l : List Et) (P : Et → Bool) : Prop :=
  ∀ (w1 : World) (x : Et) (a : Option Addr) (n cap : Nat), Kept w w1 → x ∈ l → Calls Try.prog 81 #[enV x.key x.day a n cap, .pointer (some ⟨bx, 0, none⟩)] w1 fun e w2 => e = .returned (.bool (P x)) ∧ Kept w1 w2
abbrev fn_key (bx : Nat) : Value := .func (.func 81) #[] #[.pointer (some ⟨bx, 0, none⟩)]
set_option maxHeartbeats 2000000 in
theorem find_key (q : BkA) (b : Bk) (bx : Nat) (P : Et → Bool) (w : World) (hM : BkM w q b) (hC : Clo_key w bx b.ens P) :
    Calls Try.prog 60 #[bkV q b, fn_key bx] w fun e w' => e = .returned (.int .i64 (b.ens.findIdx P : Nat)) ∧ Kept w w' := by
  have k1 := (Kept.refl w).alloc (bkO q b)
  have hB := BBx.new w q b
  have HM := Lib.hid (hM.later k1)
  have HC := Lib.hid hC
  have hem : b.ens.length ≤ 9223372036854775807 := by have := hM.en; unfold maxLen at this; omega
  clear hM hC
  go_enter Try.func60, Try.ntmps60
  go_wp2
  have K1 := Lib.hid k1
  have HB := Lib.hid hB
  generalize w.alloc (bkO q b) = W at *
  generalize w.heap.size = p0 at *
  clear k1 hB
  go_loopw [10] (fun i wr => ∃ k : Nat, k ≤ b.ens.length ∧ i = .int .i64 k ∧ Hid (b.ens.findIdx P = k + (b.ens.drop k).findIdx P) ∧ Kept W wr) (fun i _ => b.ens.length - (intOf i).toNat)
  case atStart => exact ⟨0, Nat.zero_le _, rfl, Lib.hid (by simp), Kept.refl _⟩
  case round =>
    obtain ⟨k, hk, rfl, HT, hK⟩ := hrel
    by_cases hlt : k < b.ens.length
    · obtain ⟨p, off, hp, hR⟩ := (HM.out.ens.later hK).at hlt
      obtain ⟨a, cap, c0, c1, c2, _, _, _⟩ := hR.at k hlt
      have plt := hR.1
      have NX := Lib.hid (fun hb => find_next (P := P) hlt HT.out hb)
      have NY := Lib.hid (fun hb => find_here (P := P) hlt HT.out hb)
      have HX := Lib.hid (List.getElem_mem hlt)
      clear hR
      rw [hp] at *
      generalize b.ens[k] = x at *
      have kE := (Kept.refl wr).alloc (.cells #[.string x.key, .int .i64 x.day, .slice a x.lns.length cap] 64)
      have hK1 := hK.trans kE
      have kW := K1.out.trans hK1
      cases hh : P x
      · have HH := Lib.hid hh
        have NX2 := Lib.hid (NX.out hh)
        clear hh
        go_wp2_with fail
        refine (HC.out _ x a x.lns.length cap kW HX.out).mono ?_
        rintro e w5 ⟨rfl, hK5⟩
        rw [HH.out]
        go_wp2
        go_roundw
        case rel => exact ⟨k + 1, by omega, by go_num, NX2, hK1.trans hK5⟩
        case measure => simp [intOf]; omega
      · have HH := Lib.hid hh
        have NY2 := Lib.hid (NY.out hh)
        clear hh
        go_wp2_with fail
        refine (HC.out _ x a x.lns.length cap kW HX.out).mono ?_
        rintro e w5 ⟨rfl, hK5⟩
        rw [HH.out]
        go_wp2
        go_ret
        exact ⟨ret_int (by rw [NY2.out]), kW.trans hK5⟩
    · obtain rfl : k = b.ens.length := by omega
      clear hlt
      obtain ⟨b0, b1, b2, b3⟩ := HB.out.later hK
      have NE := Lib.hid (find_end (P := P) HT.out)
      go_wp2
      go_ret
      exact ⟨ret_int (by rw [NE.out]), K1.out.trans hK⟩
/-- What is asked of what is handed to find. -/
def Clo_pst (w : World) (bx : Nat) (l : List Et) (P : Et → Bool) : Prop :=
  ∀ (w1 : World) (x : Et) (a : Option Addr) (n cap : Nat), Kept w w1 → x ∈ l → Calls Try.prog 61 #[enV x.key x.day a n cap, .pointer (some ⟨bx, 0, none⟩)] w1 fun e w2 => e = .returned (.bool (P x)) ∧ Kept w1 w2
abbrev fn_pst (bx : Nat) : Value := .func (.func 61) #[] #[.pointer (some ⟨bx, 0, none⟩)]
set_option maxHeartbeats 2000000 in
theorem find_pst (q : BkA) (b : Bk) (bx : Nat) (P : Et → Bool) (w : World) (hM : BkM w q b) (hC : Clo_pst w bx b.ens P) :
    Calls Try.prog 60 #[bkV q b, fn_pst bx] w fun e w' => e = .returned (.int .i64 (b.ens.findIdx P : Nat)) ∧ Kept w w' := by
  have k1 := (Kept.refl w).alloc (bkO q b)
  have hB := BBx.new w q b
  have HM := Lib.hid (hM.later k1)
  have HC := Lib.hid hC
  have hem : b.ens.length ≤ 9223372036854775807 := by have := hM.en; unfold maxLen at this; omega
  clear hM hC
  go_enter Try.func60, Try.ntmps60
  go_wp2
  have K1 := Lib.hid k1
  have HB := Lib.hid hB
  generalize w.alloc (bkO q b) = W at *
  generalize w.heap.size = p0 at *
  clear k1 hB
  go_loopw [10] (fun i wr => ∃ k : Nat, k ≤ b.ens.length ∧ i = .int .i64 k ∧ Hid (b.ens.findIdx P = k + (b.ens.drop k).findIdx P) ∧ Kept W wr) (fun i _ => b.ens.length - (intOf i).toNat)
  case atStart => exact ⟨0, Nat.zero_le _, rfl, Lib.hid (by simp), Kept.refl _⟩
  case round =>
    obtain ⟨k, hk, rfl, HT, hK⟩ := hrel
    by_cases hlt : k < b.ens.length
    · obtain ⟨p, off, hp, hR⟩ := (HM.out.ens.later hK).at hlt
      obtain ⟨a, cap, c0, c1, c2, _, _, _⟩ := hR.at k hlt
      have plt := hR.1
      have NX := Lib.hid (fun hb => find_next (P := P) hlt HT.out hb)
      have NY := Lib.hid (fun hb => find_here (P := P) hlt HT.out hb)
      have HX := Lib.hid (List.getElem_mem hlt)
      clear hR
      rw [hp] at *
      generalize b.ens[k] = x at *
      have kE := (Kept.refl wr).alloc (.cells #[.string x.key, .int .i64 x.day, .slice a x.lns.length cap] 64)
      have hK1 := hK.trans kE
      have kW := K1.out.trans hK1
      cases hh : P x
      · have HH := Lib.hid hh
        have NX2 := Lib.hid (NX.out hh)
        clear hh
        go_wp2_with fail
        refine (HC.out _ x a x.lns.length cap kW HX.out).mono ?_
        rintro e w5 ⟨rfl, hK5⟩
        rw [HH.out]
        go_wp2
        go_roundw
        case rel => exact ⟨k + 1, by omega, by go_num, NX2, hK1.trans hK5⟩
        case measure => simp [intOf]; omega
      · have HH := Lib.hid hh
        have NY2 := Lib.hid (NY.out hh)
        clear hh
        go_wp2_with fail
        refine (HC.out _ x a x.lns.length cap kW HX.out).mono ?_
        rintro e w5 ⟨rfl, hK5⟩
        rw [HH.out]
        go_wp2
        go_ret
        exact ⟨ret_int (by rw [NY2.out]), kW.trans hK5⟩
    · obtain rfl : k = b.ens.length := by omega
      clear hlt
      obtain ⟨b0, b1, b2, b3⟩ := HB.out.later hK
      have NE := Lib.hid (find_end (P := P) HT.out)
      go_wp2
      go_ret
      exact ⟨ret_int (by rw [NE.out]), K1.out.trans hK⟩
/-- What is asked of what is handed to find. -/
def Clo_bal (w : World) (bx : Nat) (l : List Et) (P : Et → Bool) : Prop :=
  ∀ (w1 : World) (x : Et) (a : Option Addr) (n cap : Nat), Kept w w1 → x ∈ l → Calls Try.prog 68 #[enV x.key x.day a n cap, .pointer (some ⟨bx, 0, none⟩)] w1 fun e w2 => e = .returned (.bool (P x)) ∧ Kept w1 w2
abbrev fn_bal (bx : Nat) : Value := .func (.func 68) #[] #[.pointer (some ⟨bx, 0, none⟩)]
set_option maxHeartbeats 2000000 in
theorem find_bal (q : BkA) (b : Bk) (bx : Nat) (P : Et → Bool) (w : World) (hM : BkM w q b) (hC : Clo_bal w bx b.ens P) :
    Calls Try.prog 60 #[bkV q b, fn_bal bx] w fun e w' => e = .returned (.int .i64 (b.ens.findIdx P : Nat)) ∧ Kept w w' := by
  have k1 := (Kept.refl w).alloc (bkO q b)
  have hB := BBx.new w q b
  have HM := Lib.hid (hM.later k1)
  have HC := Lib.hid hC
  have hem : b.ens.length ≤ 9223372036854775807 := by have := hM.en; unfold maxLen at this; omega
  clear hM hC
  go_enter Try.func60, Try.ntmps60
  go_wp2
  have K1 := Lib.hid k1
  have HB := Lib.hid hB
  generalize w.alloc (bkO q b) = W at *
  generalize w.heap.size = p0 at *
  clear k1 hB
  go_loopw [10] (fun i wr => ∃ k : Nat, k ≤ b.ens.length ∧ i = .int .i64 k ∧ Hid (b.ens.findIdx P = k + (b.ens.drop k).findIdx P) ∧ Kept W wr) (fun i _ => b.ens.length - (intOf i).toNat)
  case atStart => exact ⟨0, Nat.zero_le _, rfl, Lib.hid (by simp), Kept.refl _⟩
  case round =>
    obtain ⟨k, hk, rfl, HT, hK⟩ := hrel
    by_cases hlt : k < b.ens.length
    · obtain ⟨p, off, hp, hR⟩ := (HM.out.ens.later hK).at hlt
      obtain ⟨a, cap, c0, c1, c2, _, _, _⟩ := hR.at k hlt
      have plt := hR.1
      have NX := Lib.hid (fun hb => find_next (P := P) hlt HT.out hb)
      have NY := Lib.hid (fun hb => find_here (P := P) hlt HT.out hb)
      have HX := Lib.hid (List.getElem_mem hlt)
      clear hR
      rw [hp] at *
      generalize b.ens[k] = x at *
      have kE := (Kept.refl wr).alloc (.cells #[.string x.key, .int .i64 x.day, .slice a x.lns.length cap] 64)
      have hK1 := hK.trans kE
      have kW := K1.out.trans hK1
      cases hh : P x
      · have HH := Lib.hid hh
        have NX2 := Lib.hid (NX.out hh)
        clear hh
        go_wp2_with fail
        refine (HC.out _ x a x.lns.length cap kW HX.out).mono ?_
        rintro e w5 ⟨rfl, hK5⟩
        rw [HH.out]
        go_wp2
        go_roundw
        case rel => exact ⟨k + 1, by omega, by go_num, NX2, hK1.trans hK5⟩
        case measure => simp [intOf]; omega
      · have HH := Lib.hid hh
        have NY2 := Lib.hid (NY.out hh)
        clear hh
        go_wp2_with fail
        refine (HC.out _ x a x.lns.length cap kW HX.out).mono ?_
        rintro e w5 ⟨rfl, hK5⟩
        rw [HH.out]
        go_wp2
        go_ret
        exact ⟨ret_int (by rw [NY2.out]), kW.trans hK5⟩
    · obtain rfl : k = b.ens.length := by omega
      clear hlt
      obtain ⟨b0, b1, b2, b3⟩ := HB.out.later hK
      have NE := Lib.hid (find_end (P := P) HT.out)
      go_wp2
      go_ret
      exact ⟨ret_int (by rw [NE.out]), K1.out.trans hK⟩
set_option maxHeartbeats 1000000 in
theorem kclos_any (bx : Nat) (c : ByteArray) (x : Et) (a : Option Addr) (n cap : Nat) (w : World) (hB : SBx w bx c) :
    Calls Try.prog 81 #[enV x.key x.day a n cap, .pointer (some ⟨bx, 0, none⟩)] w fun e w' => e = .returned (.bool (x.key.toList == c.toList)) ∧ Kept w w' := by
  have hK := (Kept.refl w).alloc (.cells #[.string x.key, .int .i64 x.day, .slice a n cap] 64)
  obtain ⟨b0, b1⟩ := hB.later hK
  obtain ⟨b2, _⟩ := hB
  go_enter Try.func81, Try.ntmps81
  go_wp2
  go_ret
  exact ⟨rfl, hK⟩
set_option maxHeartbeats 1000000 in
theorem pclos_any (bx : Nat) (y x : Et) (a a' : Option Addr) (n cap n' cap' : Nat) (w : World) (hB : EBx w bx y.key y.day (.slice a' n' cap')) :
    Calls Try.prog 61 #[enV x.key x.day a n cap, .pointer (some ⟨bx, 0, none⟩)] w fun e w' => e = .returned (.bool (befB y x)) ∧ Kept w w' := by
  have hK := (Kept.refl w).alloc (.cells #[.string x.key, .int .i64 x.day, .slice a n cap] 64)
  obtain ⟨b0, b1, b2, b3⟩ := hB.later hK
  obtain ⟨b4, _, _, _⟩ := hB
  go_enter Try.func61, Try.ntmps61
  go_wp2_with fail
  refine (before_any y x _ _ _ _ _ _ _).mono ?_
  rintro e w1 ⟨rfl, hK1⟩
  go_wp2
  go_ret
  exact ⟨rfl, hK.trans hK1⟩
set_option maxHeartbeats 1000000 in
theorem bclos_any (bx : Nat) (d : Int) (x : Et) (a : Option Addr) (n cap : Nat) (w : World) (hB : IBx w bx d) :
    Calls Try.prog 68 #[enV x.key x.day a n cap, .pointer (some ⟨bx, 0, none⟩)] w fun e w' => e = .returned (.bool (decide (d < x.day))) ∧ Kept w w' := by
  have hK := (Kept.refl w).alloc (.cells #[.string x.key, .int .i64 x.day, .slice a n cap] 64)
  obtain ⟨b0, b1⟩ := hB.later hK
  obtain ⟨b2, _⟩ := hB
  go_enter Try.func68, Try.ntmps68
  go_wp2
  go_ret
  exact ⟨rfl, hK⟩
set_option maxHeartbeats 1000000 in
theorem withKey_any (q : BkA) (b : Bk) (k : ByteArray) (w : World) (hM : BkM w q b) :
    Calls Try.prog 56 #[bkV q b, .string k] w fun e w' => e = .returned (.int .i64 (kyI k b.ens : Nat)) ∧ Kept w w' := by
  have k1 := (Kept.refl w).alloc (bkO q b)
  have k2 := k1.alloc (.cells #[.string k] 9)
  have hB := (BBx.new w q b).later ((Kept.refl (w.alloc (bkO q b))).alloc (.cells #[.string k] 9))
  have hS := SBx.newAt (w := w.alloc (bkO q b)) (p := w.heap.size + 1) (by simp) k 9
  have HF := Lib.hid (find_key q b (w.heap.size + 1) (fun e => e.key.toList == k.toList) ((w.alloc (bkO q b)).alloc (.cells #[.string k] 9)) (hM.later k2) (fun w1 x a n cap kk hx => kclos_any _ k x a n cap w1 (hS.later kk)))
  have HI := Lib.hid (show b.ens.findIdx (fun e => e.key.toList == k.toList) = kyI k b.ens from rfl)
  rw [HI.out] at HF
  obtain ⟨b0, b1, b2, b3⟩ := hB
  clear hM hS
  go_enter Try.func56, Try.ntmps56
  go_wp2_with fail
  refine HF.out.mono ?_
  rintro e w1 ⟨rfl, hK1⟩
  go_wp2
  go_ret
  exact ⟨rfl, k2.trans hK1⟩
/-- The error of the lines' accounts. -/
def alE (acs l : List Pr) : Int := if allA acs l = true then 0 else 4
theorem kd_has {c : ByteArray} {l : List Pr} : kdE (l.filter (isB c)) = if hasB c l = true then 0 else 4 := by
  by_cases h : hasB c l = true
  · rw [if_pos h]
    unfold hasB at h
    rw [List.any_eq_true] at h
    obtain ⟨y, h1, h2⟩ := h
    cases hf : l.filter (isB c) with
    | nil => rw [List.filter_eq_nil_iff] at hf; exact absurd h2 (hf y h1)
    | cons z r => rfl
  · rw [if_neg h]
    have : l.filter (isB c) = [] := by
      rw [List.filter_eq_nil_iff]
      intro y hy hb
      exact h (by unfold hasB; rw [List.any_eq_true]; exact ⟨y, hy, hb⟩)
    rw [this]; rfl
theorem all_snoc {P : Pr → Bool} {l : List Pr} {k : Nat} (h : k < l.length) (a : (l.take k).all P = true) (b : P l[k] = true) : (l.take (k + 1)).all P = true := by
  rw [List.take_succ_eq_append_getElem h, List.all_append, a]; simp [b]
theorem all_not {P : Pr → Bool} {l : List Pr} {k : Nat} (h : k < l.length) (b : P l[k] = false) : l.all P = false := by
  rw [List.all_eq_false]; exact ⟨_, List.getElem_mem h, by simp [b]⟩
set_option maxHeartbeats 2000000 in
theorem cacc_any (q : BkA) (b : Bk) (x : Et) (a : Option Addr) (cap : Nat) (w : World) (hM : BkM w q b) (ok : acE b.acs = 0) (hA : PArg w a x.lns) (hn : x.lns.length ≤ 1000) :
    Calls Try.prog 83 #[bkV q b, enV x.key x.day a x.lns.length cap] w fun e w' => e = .returned (.int .i64 (alE b.acs x.lns)) ∧ Kept w w' := by
  have k1 := (Kept.refl w).alloc (bkO q b)
  have k2 := k1.alloc (.cells #[.string x.key, .int .i64 x.day, .slice a x.lns.length cap] 64)
  have hB := (BBx.new w q b).later ((Kept.refl (w.alloc (bkO q b))).alloc (.cells #[.string x.key, .int .i64 x.day, .slice a x.lns.length cap] 64))
  have HA := Lib.hid (hA.later k2)
  have HM := Lib.hid (hM.later k2)
  have OK := Lib.hid ok
  generalize hl : x.lns = l at *
  clear hM hA ok
  go_enter Try.func83, Try.ntmps83
  go_wp2
  have K2 := Lib.hid k2
  have HB := Lib.hid hB
  generalize (w.alloc (bkO q b)).alloc (.cells #[.string x.key, .int .i64 x.day, .slice a l.length cap] 64) = W at *
  generalize w.heap.size = p0 at *
  clear k1 k2 hB
  go_loopw [12] (fun i wr => ∃ k : Nat, k ≤ l.length ∧ i = .int .i64 k ∧ Hid ((l.take k).all (fun y => hasB y.1 b.acs) = true) ∧ Kept W wr) (fun i _ => l.length - (intOf i).toNat)
  case atStart => exact ⟨0, Nat.zero_le _, rfl, Lib.hid rfl, Kept.refl _⟩
  case round =>
    obtain ⟨k, hk, rfl, HT, hK⟩ := hrel
    by_cases hlt : k < l.length
    · obtain ⟨p, off, rfl, hR⟩ := (HA.out.later hK).at hlt
      have c0 := hR.c0 k hlt
      have c1 := hR.c1 k hlt
      have plt := hR.lt
      have NX := Lib.hid (fun hb => all_snoc (P := fun y : Pr => hasB y.1 b.acs) hlt HT.out hb)
      have NO := Lib.hid (fun hb => all_not (P := fun y : Pr => hasB y.1 b.acs) hlt hb)
      clear hR
      generalize l[k] = y at *
      have kE := (Kept.refl wr).alloc (.cells #[.string y.1, .int .i64 y.2] 97)
      obtain ⟨b0, b1, b2, b3⟩ := (HB.out.later hK).later kE
      have HM2 := Lib.hid ((HM.out.later hK).later kE)
      have hK1 := hK.trans kE
      have KH := Lib.hid (kd_has (c := y.1) (l := b.acs))
      obtain ⟨b0', _, _, _⟩ := HB.out.later hK
      cases hh : hasB y.1 b.acs
      · rw [hh] at KH
        have AL := Lib.hid (show alE b.acs l = 4 by unfold alE allA; rw [NO.out hh]; rfl)
        go_wp2_with fail
        refine (kind_yes _ _ _ y.1 _ HM2.out.acs HM2.out.sha HM2.out.an OK.out).mono ?_
        rintro e w5 ⟨rfl, hK5⟩
        rw [KH.out]
        go_wp2
        go_ret
        exact ⟨ret_int AL.out.symm, K2.out.trans (hK1.trans hK5)⟩
      · rw [hh] at KH
        have NX2 := Lib.hid (NX.out hh)
        go_wp2_with fail
        refine (kind_yes _ _ _ y.1 _ HM2.out.acs HM2.out.sha HM2.out.an OK.out).mono ?_
        rintro e w5 ⟨rfl, hK5⟩
        rw [KH.out]
        go_wp2
        go_roundw
        case rel => exact ⟨k + 1, by omega, by go_num, NX2, hK1.trans hK5⟩
        case measure => simp [intOf]; omega
    · obtain rfl : k = l.length := by omega
      clear hlt
      have AL := Lib.hid (show alE b.acs l = 0 by unfold alE allA; have := HT.out; rw [List.take_length] at this; rw [this]; rfl)
      go_wp2
      go_ret
      exact ⟨ret_int AL.out.symm, K2.out.trans hK⟩
set_option maxHeartbeats 2000000 in
theorem cnew_any (q : BkA) (b : Bk) (x : Et) (a : Option Addr) (cap : Nat) (w : World) (hM : BkM w q b) (ok : acE b.acs = 0) (hA : PArg w a x.lns) (hn : x.lns.length ≤ 1000) :
    Calls Try.prog 59 #[bkV q b, enV x.key x.day a x.lns.length cap] w fun e w' => e = .returned (.int .i64 (nwE b x)) ∧ Kept w w' := by
  have k1 := (Kept.refl w).alloc (bkO q b)
  have k2 := k1.alloc (.cells #[.string x.key, .int .i64 x.day, .slice a x.lns.length cap] 64)
  have hB := (BBx.new w q b).later ((Kept.refl (w.alloc (bkO q b))).alloc (.cells #[.string x.key, .int .i64 x.day, .slice a x.lns.length cap] 64))
  have hE := EBx.newAt (w := w.alloc (bkO q b)) (p := w.heap.size + 1) (by simp) x.key x.day (.slice a x.lns.length cap) 64
  have HX := Lib.hid (cacc_any q b x a cap _ (hM.later k2) ok (hA.later k2) hn)
  have hem : b.ens.length ≤ 9223372036854775807 := by have := hM.en; unfold maxLen at this; omega
  obtain ⟨b0, b1, b2, b3⟩ := hB
  obtain ⟨e0, e1, e2, e3⟩ := hE
  have K2 := Lib.hid k2
  clear hM hA ok k1 k2
  by_cases h1 : allA b.acs x.lns = true
  · have AL := Lib.hid (show alE b.acs x.lns = 0 by unfold alE; rw [if_pos h1])
    by_cases h2 : x.day ≤ b.shut
    · have NE := Lib.hid (show nwE b x = 9 by unfold nwE; rw [if_pos h1, if_pos h2])
      clear h1
      go_enter Try.func59, Try.ntmps59
      go_wp2_with fail
      refine HX.out.mono ?_
      rintro e w1 ⟨rfl, hK1⟩
      rw [AL.out]
      obtain ⟨b0', b1', b2', b3'⟩ := (show BBx _ _ q b from ⟨b0, b1, b2, b3⟩).later hK1
      obtain ⟨e0', e1', e2', e3'⟩ := (show EBx _ _ x.key x.day (.slice a x.lns.length cap) from ⟨e0, e1, e2, e3⟩).later hK1
      go_wp2
      go_ret
      exact ⟨ret_int NE.out.symm, K2.out.trans hK1⟩
    · by_cases h3 : 60 ≤ b.ens.length
      · have NE := Lib.hid (show nwE b x = 2 by unfold nwE; rw [if_pos h1, if_neg h2, if_pos h3])
        have h4 : (60 : Int) ≤ (b.ens.length : Int) := by omega
        clear h1 h3
        go_enter Try.func59, Try.ntmps59
        go_wp2_with fail
        refine HX.out.mono ?_
        rintro e w1 ⟨rfl, hK1⟩
        rw [AL.out]
        obtain ⟨b0', b1', b2', b3'⟩ := (show BBx _ _ q b from ⟨b0, b1, b2, b3⟩).later hK1
        obtain ⟨e0', e1', e2', e3'⟩ := (show EBx _ _ x.key x.day (.slice a x.lns.length cap) from ⟨e0, e1, e2, e3⟩).later hK1
        go_wp2
        go_ret
        exact ⟨ret_int NE.out.symm, K2.out.trans hK1⟩
      · have NE := Lib.hid (show nwE b x = 0 by unfold nwE; rw [if_pos h1, if_neg h2, if_neg h3])
        have h4 : ¬ (60 : Int) ≤ (b.ens.length : Int) := by omega
        clear h1 h3
        go_enter Try.func59, Try.ntmps59
        go_wp2_with fail
        refine HX.out.mono ?_
        rintro e w1 ⟨rfl, hK1⟩
        rw [AL.out]
        obtain ⟨b0', b1', b2', b3'⟩ := (show BBx _ _ q b from ⟨b0, b1, b2, b3⟩).later hK1
        obtain ⟨e0', e1', e2', e3'⟩ := (show EBx _ _ x.key x.day (.slice a x.lns.length cap) from ⟨e0, e1, e2, e3⟩).later hK1
        go_wp2
        go_ret
        exact ⟨ret_int NE.out.symm, K2.out.trans hK1⟩
  · have AL := Lib.hid (show alE b.acs x.lns = 4 by unfold alE; rw [if_neg h1])
    have NE := Lib.hid (show nwE b x = 4 by unfold nwE; rw [if_neg h1])
    clear h1
    go_enter Try.func59, Try.ntmps59
    go_wp2_with fail
    refine HX.out.mono ?_
    rintro e w1 ⟨rfl, hK1⟩
    rw [AL.out]
    go_wp2
    go_ret
    exact ⟨ret_int NE.out.symm, K2.out.trans hK1⟩
end Go.Proofs.Ytdgiljndoeldcaa
