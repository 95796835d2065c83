/-
  The law EntrySays: for every entry, key and day it answers true; nothing that was there is turned. Condition: lengths that a machine's memory lets in.
-/
import Derived.Test.YtfckdiaobogdlaaDoorCWalkE
namespace Go.Proofs.YtfckdiaobogdlaaDoor
open Go.RowKit
set_option linter.unusedVariables false

theorem a_key : keyB ⟨#[97]⟩ = true := by decide +kernel
theorem nul_entry : enE ⟨#[]⟩ 0 [] = 3 := by decide +kernel
/-- What Turned returns of the law's entry: an entry that reads so, and an error. -/
def TurnedPost (w : World) (k : ByteArray) (d : Int) (l : List Pr) (er : Int) (e : Ending) (w' : World) : Prop :=
  ∃ a c, e = .returned (.tuple #[.agg #[.string k, .int .i64 d, .slice a l.length c], .int .i64 er]) ∧ PArg w' a l ∧ NewAt w a ∧ Kept w w'
/-- The entry, its key, day and lines, and the error. -/
def trK (k : ByteArray) (d : Int) (l : List Pr) (key : ByteArray) (day : Int) : ByteArray := if enE k d l = 0 ∧ hdE key day = 0 then key else ⟨#[]⟩
def trD (k : ByteArray) (d : Int) (l : List Pr) (key : ByteArray) (day : Int) : Int := if enE k d l = 0 ∧ hdE key day = 0 then day else 0
def trL (k : ByteArray) (d : Int) (l : List Pr) (key : ByteArray) (day : Int) : List Pr := if enE k d l = 0 ∧ hdE key day = 0 then negL l else []
def trE (k : ByteArray) (d : Int) (l : List Pr) (key : ByteArray) (day : Int) : Int := if enE k d l = 0 then hdE key day else enE k d l
theorem newAt_of {w : World} {p off : Nat} (h : w.heap.size ≤ p) : NewAt w (some ⟨p, off, none⟩) := by
  intro q o e
  obtain ⟨rfl, _⟩ : p = q ∧ off = o := by simpa using e
  exact h
theorem turned_any (k : ByteArray) (d : Int) (a : Option Addr) (l : List Pr) (cap : Nat) (key : ByteArray) (day : Int) (w : World) (hs : k.size ≤ maxLen) (hs2 : key.size ≤ maxLen) (hn : l.length ≤ maxLen) (hA : PArg w a l) (hS : Shortish l) (hc : l.length ≤ cap) (hcm : cap ≤ maxLen) :
    Calls Tryd.prog 12 #[enV k d a l.length cap, .string key, .int .i64 day] w (TurnedPost w (trK k d l key day) (trD k d l key day) (trL k d l key day) (trE k d l key day)) := by
  unfold trK trD trL trE
  by_cases ok : enE k d l = 0
  · by_cases oh : hdE key day = 0
    · rw [if_pos ⟨ok, oh⟩, if_pos ⟨ok, oh⟩, if_pos ⟨ok, oh⟩, if_pos ok, oh]
      exact (turned_yes k d a l cap key day w hs hs2 hn hA hS hc hcm ok oh).mono fun e w' ⟨p, hp, he, hO, hK⟩ => ⟨_, _, he, .inr ⟨p, 0, rfl, hO.row⟩, newAt_of hp, hK⟩
    · have h : ¬ (enE k d l = 0 ∧ hdE key day = 0) := fun h => oh h.2
      rw [if_neg h, if_neg h, if_neg h, if_pos ok]
      exact (turned_head k d a l cap key day w hs hs2 hn hA hS hc hcm ok oh).mono fun e w' ⟨he, hK⟩ => ⟨none, 0, he, .inl rfl, (fun _ _ e => by cases e), hK⟩
  · have h : ¬ (enE k d l = 0 ∧ hdE key day = 0) := fun h => ok h.1
    rw [if_neg h, if_neg h, if_neg h, if_neg ok]
    exact (turned_bad k d a l cap key day w hs hn hA hS hc hcm ok).mono fun e w' ⟨he, hK⟩ => ⟨none, 0, he, .inl rfl, (fun _ _ e => by cases e), hK⟩
theorem rturned_any (k : ByteArray) (d : Int) (a : Option Addr) (l : List Pr) (cap : Nat) (key : ByteArray) (day : Int) (w : World) (hs2 : key.size ≤ maxLen) (hA : PArg w a l) (ok : enE k d l = 0) :
    Calls Tryd.prog 17 #[enV k d a l.length cap, .string key, .int .i64 day] w (TurnedPost w (trK k d l key day) (trD k d l key day) (trL k d l key day) (trE k d l key day)) := by
  unfold trK trD trL trE
  obtain ⟨_, _, l12, lz, _⟩ := enE_ok ok
  have hb := lnsE_all l [] lz
  by_cases oh : hdE key day = 0
  · rw [if_pos ⟨ok, oh⟩, if_pos ⟨ok, oh⟩, if_pos ⟨ok, oh⟩, if_pos ok, oh]
    exact rturned_yes k d a l cap key day w hs2 hA l12 (fun x hx => ⟨(hb x hx).2.1, (hb x hx).2.2.1⟩) oh
  · have h : ¬ (enE k d l = 0 ∧ hdE key day = 0) := fun h => oh h.2
    rw [if_neg h, if_neg h, if_neg h, if_pos ok]
    exact (rturned_no _ k d a l cap key day w rfl hs2 oh).mono fun e w' ⟨he, hK⟩ => ⟨none, 0, he, .inl rfl, (fun _ _ e => by cases e), hK⟩
theorem trL_len (k : ByteArray) (d : Int) (l : List Pr) (key : ByteArray) (day : Int) : (trL k d l key day).length ≤ 12 := by
  unfold trL
  split
  · rename_i h
    rw [negL_len]; exact (enE_ok h.1).2.2.1
  · simp
set_option maxRecDepth 100000 in
set_option maxHeartbeats 8000000 in
theorem entrySays_walk (k : ByteArray) (d : Int) (a : Option Addr) (l : List Pr) (cap : Nat) (key : ByteArray) (day : Int) (w : World) (hs : k.size ≤ maxLen) (hA : PArg w a l) (hS : Shortish l) (hn : l.length ≤ maxLen) (hc : l.length ≤ cap) (hcm : cap ≤ maxLen) (hs2 : key.size ≤ maxLen) :
    Calls Tryd.prog 4 #[enV k d a l.length cap, .string key, .int .i64 day] w fun e w' => e = .returned (.bool true) ∧ Kept w w' := by
  have hK0 := (Kept.refl w).alloc (.cells #[.string k, .int .i64 d, .slice a l.length cap] 37)
  have hE0 := EBx.new w k d (.slice a l.length cap) 37
  have HA := Lib.hid hA
  have HS := Lib.hid hS
  have HN := Lib.hid hn
  have HC := Lib.hid hc
  have HM := Lib.hid hcm
  have H1 := Lib.hid hs
  have H2 := Lib.hid hs2
  have RT := Lib.hid (fun (w : World) (h : PArg w a l) (ok : enE k d l = 0) => rturned_any k d a l cap key day w hs2 h ok)
  have TL := trL_len k d l key day
  have TB := Lib.hid (show enE k d l ≠ 0 → trK k d l key day = ⟨#[]⟩ ∧ trD k d l key day = 0 ∧ trL k d l key day = [] ∧ trE k d l key day = enE k d l by
    intro ok
    have h : ¬ (enE k d l = 0 ∧ hdE key day = 0) := fun h => ok h.1
    unfold trK trD trL trE
    rw [if_neg h, if_neg h, if_neg h, if_neg ok]
    exact ⟨rfl, rfl, rfl, rfl⟩)
  have HX := Lib.hid (turned_any k d a l cap key day _ H1.out H2.out HN.out (HA.out.later hK0) HS.out HC.out HM.out)
  clear hA hS hn hc hcm hs hs2
  generalize trK k d l key day = tk at *
  generalize trD k d l key day = td at *
  generalize trL k d l key day = tl at *
  generalize trE k d l key day = te at *
  go_enter Tryd.func4, Tryd.ntmps4
  go_wp2_with fail
  refine HX.out.mono ?_
  rintro e w1 ⟨a1, c1, rfl, hP1, _, hK1⟩
  have A1 := Lib.hid (show ∀ p off, a1 = some ⟨p, off, none⟩ → tl ≠ [] → p < w1.heap.size from fun p off e ne => by
    rcases hP1 with h | ⟨q, o, e2, h⟩
    · exact absurd h ne
    · rw [e] at e2
      obtain ⟨rfl, _⟩ : p = q ∧ off = o := by simpa using e2
      exact h.lt)
  have kb := (Kept.refl w1).alloc (.cells #[.string tk, .int .i64 td, .slice a1 tl.length c1] 37)
  have hK2 := (hK0.trans hK1).trans kb
  have hE1 := hE0.later hK1
  have hE2 := hE1.later kb
  have hY2 := EBx.new w1 tk td (.slice a1 tl.length c1) 37
  have hP2 := hP1.later kb
  have u1 := hE1.lt
  clear hK0 hK1 hE0 hE1 hP1 kb HX
  obtain ⟨e0, e1, e2, e3⟩ := id hE2
  have HX := Lib.hid (rentry_any k d a l cap _ H1.out HN.out (HA.out.later hK2) HS.out)
  go_wp2_with fail
  refine HX.out.mono ?_
  rintro e w2 ⟨rfl, hK3⟩
  have hK4 := hK2.trans hK3
  have hE4 := hE2.later hK3
  have hY4 := hY2.later hK3
  have hP4 := hP2.later hK3
  clear hK2 hK3 hE2 hY2 hP2 HX e0 e1 e2 e3 u1
  go_wp2_with fail
  refine (key_any _ _ H2.out).mono ?_
  rintro e w3 ⟨rfl, rfl⟩
  go_wp2_with fail
  refine (rkey_any _ _ H2.out).mono ?_
  rintro e w3 ⟨rfl, rfl⟩
  generalize keyB key = kb at *
  have kb1 : (kb != kb) = false := by simp
  obtain ⟨e0, e1, e2, e3⟩ := id hE4
  have HX := Lib.hid (echeck_any k d a l cap w2 H1.out HN.out (HA.out.later hK4) HS.out HC.out HM.out)
  go_wp2_with fail
  refine HX.out.mono ?_
  rintro e w3 ⟨rfl, hK5⟩
  have hK6 := hK4.trans hK5
  have hE6 := hE4.later hK5
  have hY6 := hY4.later hK5
  have hP6 := hP4.later hK5
  clear hK4 hK5 hE4 hY4 hP4 HX e0 e1 e2 e3
  have er1 : (enE k d l != enE k d l) = false := by simp
  go_wp2_with fail
  refine (key_any _ _ (by decide)).mono ?_
  rintro e w4 ⟨rfl, rfl⟩
  rw [a_key]
  go_wp2_with fail
  refine (echeck_any ⟨#[]⟩ 0 none [] 0 w3 (by decide) (by decide) (.inl rfl) (by intro x hx; simp at hx) (by decide) (by decide)).mono ?_
  rintro e w4 ⟨rfl, hK7⟩
  rw [nul_entry]
  have kb2 := (Kept.refl w4).alloc (.cells #[.string ⟨#[]⟩, .int .i64 0, .slice none 0 0] 37)
  have hK8 := (hK6.trans hK7).trans kb2
  have hE7 := hE6.later hK7
  have hE8 := hE7.later kb2
  have hY7 := hY6.later hK7
  have hY8 := hY7.later kb2
  have hP8 := (hP6.later hK7).later kb2
  have hZ8 := WBx.new w4 ⟨#[]⟩ 0 (.slice none 0 0) 37 _ rfl
  have u1 := hE7.lt
  have u2 := hY7.lt
  have u3 : w1.heap.size < w4.heap.size := u2
  clear hK6 hK7 hE6 hE7 hY6 hY7 hP6 kb2
  obtain ⟨e0, e1, e2, e3⟩ := id hE8
  obtain ⟨y0, y1, y2, y3⟩ := id hY8
  obtain ⟨⟨z0, z1, z2, z3⟩, f0, f1, f2⟩ := id hZ8
  by_cases ok : enE k d l = 0
  · have HX := Lib.hid (RT.out _ (HA.out.later hK8) ok)
    rw [ok] at *
    clear er1 TB
    go_wp2_with fail
    refine HX.out.mono ?_
    rintro e w5 ⟨a5, c5, rfl, hP9, hN9, hK9⟩
    have hK10 := hK8.trans hK9
    have hZ10 := hZ8.later hK9
    have hY10 := hY8.later hK9
    have hQ10 := hP8.later hK9
    have w4n : tl ≠ [] → ∀ p off, a5 = some ⟨p, off, none⟩ → w4.heap.size ≠ p := fun _ p off e => by have := hN9 p off e; simp at this; omega
    have w1n : tl ≠ [] → ∀ p off, a1 = some ⟨p, off, none⟩ → w4.heap.size ≠ p := fun ne p off e => by have := A1.out p off e ne; omega
    have hw4 : w.heap.size ≤ w4.heap.size := by omega
    have hP11 := ((hP9.other (i := 0) (v := .string tk) w4n).other (i := 1) (v := .int .i64 td) w4n).other (i := 2) (v := .slice a5 tl.length c5) w4n
    have hQ11 := ((hQ10.other (i := 0) (v := .string tk) w1n).other (i := 1) (v := .int .i64 td) w1n).other (i := 2) (v := .slice a5 tl.length c5) w1n
    have hK11 := ((hK10.setAt (i := 0) hw4 (.string tk)).setAt (i := 1) hw4 (.int .i64 td)).setAt (i := 2) hw4 (.slice a5 tl.length c5)
    have HY := Lib.hid (same_yes tk td tl a1 a5 tl.length c1 c5 _ (by omega) rfl hQ11 hP11)
    clear hK9 hK10 hP9 hP8 hQ10 hP11 hQ11 e0 e1 e2 e3 y0 y1 y2 y3 z0 z1 z2 z3 f0 f1 f2 hE8 hY8 hZ8 HX w4n w1n hN9
    obtain ⟨y0, y1, y2, y3⟩ := id hY10
    obtain ⟨⟨z0, z1, z2, z3⟩, f0, f1, f2⟩ := id hZ10
    have ne1 : w1.heap.size ≠ w4.heap.size := by omega
    generalize w4.heap.size = bz at *
    generalize w1.heap.size = by_ at *
    have te1 : (te == te) = true := by simp
    go_wp2_with fail
    refine HY.out.mono ?_
    rintro e w6 ⟨rfl, hK12⟩
    go_wp2
    go_ret
    exact ⟨rfl, hK11.trans hK12⟩
  · obtain ⟨rfl, rfl, rfl, rfl⟩ := TB.out ok
    have ok2 : (enE k d l == 0) = false := by simpa using ok
    have ok3 : (enE k d l == enE k d l) = true := by simp
    have HX := Lib.hid (same_yes ⟨#[]⟩ 0 [] a1 none 0 c1 0 _ (by simp) rfl hP8 (.inl rfl))
    clear TB ok RT
    generalize enE k d l = er at *
    rw [List.length_nil] at *
    go_wp2_with fail
    refine HX.out.mono ?_
    rintro e w5 ⟨rfl, hK9⟩
    go_wp2
    go_ret
    exact ⟨rfl, hK8.trans hK9⟩
end Go.Proofs.YtfckdiaobogdlaaDoor
