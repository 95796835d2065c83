/-
  What the tests' plain book, first sale and first look return, and what compares books. No condition but those that each theorem names.
-/
import Derived.Test.YtbaahnafmfjpaaaGreatDoorHWalkG
import Derived.Test.YtbaahnafmfjpaaaGreatDoorHWalkE
namespace Go.Proofs.YtbaahnafmfjpaaaGreatDoor
open Go.RowKit
set_option linter.unusedVariables false

/-- The accounts of the plain book. -/
def plainL : List Pr := [(⟨#[49, 48]⟩, 0), (⟨#[50, 48]⟩, 1), (⟨#[51, 48]⟩, 2), (⟨#[52, 48]⟩, 3), (⟨#[53, 48]⟩, 4)]
def plainB : Bk := ⟨plainL, [], -1⟩
/-- A book. -/
def PlPost (w : World) (b : Bk) (e : Ending) (w' : World) : Prop := ∃ q, e = .returned (bkV q b) ∧ BkM w' q b ∧ Kept w w'
theorem plain_row (w : World) (p : Nat) (t : TypeId) (hp : w.heap.size = p) : PRow (w.alloc (.cells #[.string ⟨#[49, 48]⟩, .int .i64 0, .string ⟨#[50, 48]⟩, .int .i64 1, .string ⟨#[51, 48]⟩, .int .i64 2, .string ⟨#[52, 48]⟩, .int .i64 3, .string ⟨#[53, 48]⟩, .int .i64 4] t)) p 0 plainL := by
  subst hp
  refine ⟨by simp, fun j hj => ?_, fun j hj => ?_⟩
  all_goals
    have hj' : j < 5 := hj
    match j, hj' with
    | 0, _ => simp [plainL]
    | 1, _ => simp [plainL]
    | 2, _ => simp [plainL]
    | 3, _ => simp [plainL]
    | 4, _ => simp [plainL]
theorem plain_sh : Shortish plainL := by
  intro x hx
  simp [plainL] at hx
  rcases hx with rfl | rfl | rfl | rfl | rfl <;> (unfold maxLen; decide)
/-- The first sale. -/
def saleE : Et := ⟨⟨#[97]⟩, 5, saleL 7⟩
theorem sale_m {w : World} {p : Nat} (h : PRow w p 0 (saleL 7)) : EtM w saleE (some ⟨p, 0, none⟩) 2 := by
  refine ⟨by unfold maxLen; decide, by unfold maxLen; decide, .inr ⟨p, 0, rfl, h⟩, ?_, by decide, by unfold maxLen; decide⟩
  intro x hx
  simp [saleE, saleL] at hx
  rcases hx with rfl | rfl <;> (unfold maxLen; decide)
theorem sale_ok : poE plainB saleE = 0 := by decide +kernel
theorem sale_po : poV plainB saleE = ⟨plainL, [saleE], -1⟩ := by
  unfold poV
  rw [if_neg (by decide)]
  rfl
theorem sale_bal : balS ⟨#[52, 48]⟩ 5 [saleE] = -7 := by decide +kernel
theorem sale_ba : baE ⟨plainL, [saleE], -1⟩ ⟨#[52, 48]⟩ 5 = 0 := by decide +kernel
theorem sale_ck : bkE ⟨plainL, [saleE], -1⟩ = 0 := by decide +kernel
set_option maxHeartbeats 2000000 in
theorem aequal_yes (l : List Pr) (a b : Option Addr) (n cap cap' : Nat) (w : World) (hn : l.length ≤ 1000) (e : l.length = n) (hR : PArg w a l) (hQ : PArg w b l) :
    Calls Tryz.prog 44 #[.slice a n cap, .slice b n cap'] w fun e w' => e = .returned (.bool true) ∧ Drew w w' := by
  have HR := Lib.hid hR
  have HQ := Lib.hid hQ
  have HE := Lib.hid e
  have hn' : n ≤ 1000 := by omega
  clear hR hQ e hn
  go_enter Tryz.func44, Tryz.ntmps44
  go_wp2
  go_loopw [13] (fun i wr => ∃ k m : Nat, k ≤ n ∧ i = .int .i64 k ∧ wr = w.drewN m) (fun i _ => (n - intOf i).toNat)
  case atStart => exact ⟨0, 0, by omega, rfl, rfl⟩
  case round =>
    obtain ⟨k, m, hk, rfl, rfl⟩ := hrel
    by_cases hlt : k < n
    · have hl : k < l.length := by rw [HE.out]; exact hlt
      obtain ⟨p, off, rfl, hp⟩ := HR.out.at hl
      obtain ⟨q, off', rfl, hq⟩ := HQ.out.at hl
      have c0 := hp.c0 k hl
      have c1 := hp.c1 k hl
      have d0 := hq.c0 k hl
      have d1 := hq.c1 k hl
      clear hp hq
      generalize l[k] = x at *
      clear hl
      have i0 : (0 : Int) ≤ (k : Int) := by omega
      have i1 : (k : Int) < (n : Int) := by omega
      go_wp2_with fail
      go_quiet (fail)
      go_wp2
      go_roundw
      case rel => exact ⟨k + 1, _, by omega, by go_num, rfl⟩
      case measure => simp [intOf]; omega
    · obtain rfl : k = n := by omega
      clear hlt
      go_wp2
      go_ret
      exact ⟨rfl, m, rfl⟩
abbrev fnSame : Value := .func (.func 46) #[] #[]
set_option maxHeartbeats 2000000 in
theorem eequal_yes (l : List Et) (a b : Option Addr) (n cap cap' : Nat) (w : World) (hn : l.length ≤ 60) (hl12 : ∀ x ∈ l, x.lns.length ≤ 12) (e : l.length = n) (hR : EArg w a l) (hQ : EArg w b l) :
    Calls Tryz.prog 45 #[.slice a n cap, .slice b n cap', fnSame] w fun e w' => e = .returned (.bool true) ∧ Kept w w' := by
  have HR := Lib.hid hR
  have HQ := Lib.hid hQ
  have HE := Lib.hid e
  have HL := Lib.hid hl12
  have hn' : n ≤ 60 := by omega
  clear hR hQ e hn hl12
  go_enter Tryz.func45, Tryz.ntmps45
  go_wp2
  go_loopw [17] (fun i wr => ∃ k : Nat, k ≤ n ∧ i = .int .i64 k ∧ Kept w wr) (fun i _ => (n - intOf i).toNat)
  case atStart => exact ⟨0, by omega, rfl, Kept.refl _⟩
  case round =>
    obtain ⟨k, hk, rfl, hK⟩ := hrel
    by_cases hlt : k < n
    · have hl : k < l.length := by rw [HE.out]; exact hlt
      obtain ⟨p, off, rfl, hp⟩ := (HR.out.later hK).at hl
      obtain ⟨q, off', rfl, hq⟩ := (HQ.out.later hK).at hl
      obtain ⟨a1, cap1, c0, c1, c2, _, _, hL1⟩ := hp.at k hl
      obtain ⟨a2, cap2, d0, d1, d2, _, _, hL2⟩ := hq.at k hl
      have plt := hp.1
      have qlt := hq.1
      have h12 := HL.out _ (List.getElem_mem hl)
      clear hp hq
      generalize l[k] = x at *
      clear hl
      have i0 : (0 : Int) ≤ (k : Int) := by omega
      have i1 : (k : Int) < (n : Int) := by omega
      have kE := ((Kept.refl wr).alloc (.cells #[.string x.key, .int .i64 x.day, .slice a1 x.lns.length cap1] 38)).alloc (.cells #[.string x.key, .int .i64 x.day, .slice a2 x.lns.length cap2] 38)
      have HX := Lib.hid (same_yes x.key x.day x.lns a1 a2 x.lns.length cap1 cap2 _ (by omega) rfl (hL1.later kE) (hL2.later kE))
      clear hL1 hL2
      go_wp2_with fail
      refine HX.out.mono ?_
      rintro e w5 ⟨rfl, hK5⟩
      go_wp2
      go_roundw
      case rel => exact ⟨k + 1, by omega, by go_num, hK.trans (kE.trans hK5)⟩
      case measure => simp [intOf]; omega
    · obtain rfl : k = n := by omega
      clear hlt
      go_wp2
      go_ret
      exact ⟨rfl, hK⟩
set_option maxHeartbeats 2000000 in
theorem sbook_yes (q q' : BkA) (b : Bk) (w : World) (h1 : BkM w q b) (h2 : BkM w q' b) (na : b.acs.length ≤ 24) (ne : b.ens.length ≤ 60) (nl : ∀ x ∈ b.ens, x.lns.length ≤ 12) :
    Calls Tryz.prog 20 #[bkV q b, bkV q' b] w fun e w' => e = .returned (.bool true) ∧ Kept w w' := by
  have kE := ((Kept.refl w).alloc (bkO q b)).alloc (bkO q' b)
  have HX := Lib.hid (aequal_yes b.acs q.aa q'.aa b.acs.length q.ca q'.ca _ (by omega) rfl (h1.later kE).acs (h2.later kE).acs)
  have B1 := Lib.hid ((BBx.new w q b).later ((Kept.refl (w.alloc (bkO q b))).alloc (bkO q' b)))
  have B2 := Lib.hid (show BBx ((w.alloc (bkO q b)).alloc (bkO q' b)) (w.heap.size + 1) q' b from by have := BBx.new (w.alloc (bkO q b)) q' b; rw [show (w.alloc (bkO q b)).heap.size = w.heap.size + 1 by simp] at this; exact this)
  have H1 := Lib.hid (h1.later kE)
  have H2 := Lib.hid (h2.later kE)
  have NL := Lib.hid nl
  clear h1 h2 nl
  go_enter Tryz.func20, Tryz.ntmps20
  go_wp2_with fail
  refine HX.out.mono ?_
  rintro e w1 ⟨rfl, hD⟩
  have hK1 := hD.kept
  obtain ⟨b0, b1, b2, b3⟩ := B1.out.later hK1
  obtain ⟨d0, d1, d2, d3⟩ := B2.out.later hK1
  have HE := Lib.hid (eequal_yes b.ens q.ae q'.ae b.ens.length q.ce q'.ce w1 ne NL.out rfl (H1.out.later hK1).ens (H2.out.later hK1).ens)
  go_wp2_with fail
  refine HE.out.mono ?_
  rintro e w2 ⟨rfl, hK2⟩
  go_wp2
  go_ret
  exact ⟨rfl, kE.trans (hK1.trans hK2)⟩
/-- What talkeep's Within makes of a number. -/
def wnV (k n : Int) : Int := IntKind.u64.wrap k % n
theorem wnV_bd (k : Int) {n : Int} (h : 1 ≤ n) : 0 ≤ wnV k n ∧ wnV k n < n := ⟨Int.emod_nonneg _ (by omega), Int.emod_lt_of_pos _ (by omega)⟩
theorem wnV_eq (k n : Int) (h0 : 1 ≤ n) (h1 : n ≤ 1000000000) : wrap64 ((IntKind.u64.wrap k).tmod n) = wnV k n := by
  have h2 : 0 ≤ IntKind.u64.wrap k := by rw [IntKind.wrap_u64]; omega
  have h3 : (IntKind.u64.wrap k).tmod n = wnV k n := Int.tmod_eq_emod_of_nonneg h2
  obtain ⟨h4, h5⟩ := wnV_bd k h0
  rw [h3]; unfold wrap64; omega
/-- A day that the tests take. -/
def dyV (n : Int) : Int := wnV n 292194
theorem dyV_ok (n : Int) : dyB (dyV n) = true := (dyB_iff _).2 (by have := wnV_bd n (n := 292194) (by decide); unfold dyV; omega)
end Go.Proofs.YtbaahnafmfjpaaaGreatDoor
