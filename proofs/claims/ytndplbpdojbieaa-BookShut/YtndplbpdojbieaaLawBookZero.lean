/-
  The walk of talkeep.BookZero: it returns true at every input. No condition but those that each theorem names.
-/
import Derived.Test.YtndplbpdojbieaaHWalkH
namespace Go.Proofs.Ytndplbpdojbieaa
open Go.RowKit
set_option linter.unusedVariables false

/-- A sum over accounts. -/
def sumF (f : ByteArray → Int) : List Pr → Int
  | [] => 0
  | a :: r => f a.1 + sumF f r
theorem sumF_snoc (f : ByteArray → Int) : ∀ (l : List Pr) (x : Pr), sumF f (l ++ [x]) = sumF f l + f x.1
  | [], x => by simp [sumF]
  | a :: r, x => by rw [List.cons_append, sumF, sumF, sumF_snoc f r x]; omega
theorem sumF_add (f g : ByteArray → Int) : ∀ l : List Pr, sumF (fun c => f c + g c) l = sumF f l + sumF g l
  | [] => rfl
  | a :: r => by rw [sumF, sumF, sumF, sumF_add f g r]; omega
theorem sumF_none {f : ByteArray → Int} : ∀ {l : List Pr}, (∀ a ∈ l, f a.1 = 0) → sumF f l = 0
  | [], _ => rfl
  | a :: r, h => by rw [sumF, h a (by simp), sumF_none fun b hb => h b (by simp [hb])]; rfl
theorem sumF_one {c : ByteArray} {v : Int} : ∀ {l : List Pr}, (l.map Prod.fst).Nodup → (∃ a ∈ l, a.1 = c) → sumF (fun k => if isB k (c, v) = true then v else 0) l = v
  | [], _, ⟨_, h, _⟩ => by simp at h
  | a :: r, hn, h => by
    rw [List.map_cons, List.nodup_cons] at hn
    rw [sumF]
    by_cases e : a.1 = c
    · have z : sumF (fun k => if isB k (c, v) = true then v else 0) r = 0 := sumF_none fun b hb => by
        rw [if_neg]
        intro hi
        have : c = b.1 := isB_iff.1 hi
        exact hn.1 (List.mem_map.2 ⟨b, hb, by rw [← this, e]⟩)
      rw [z, if_pos (isB_iff.2 e.symm)]; omega
    · have hr : ∃ a ∈ r, a.1 = c := by
        obtain ⟨b, hb, hc⟩ := h
        rcases List.mem_cons.1 hb with rfl | hb
        · exact absurd hc e
        · exact ⟨b, hb, hc⟩
      rw [sumF_one hn.2 hr, if_neg (fun hi => e (show a.1 = c from (isB_iff.1 hi).symm))]; omega
theorem sumF_lines {acs : List Pr} (hn : (acs.map Prod.fst).Nodup) : ∀ {l : List Pr}, (∀ y ∈ l, hasB y.1 acs = true) → sumF (fun k => codeS k l) acs = sumL l
  | [], _ => sumF_none fun a _ => rfl
  | x :: r, h => by
    have e : (fun k => codeS k (x :: r)) = fun k => (if isB k (x.1, x.2) = true then x.2 else 0) + codeS k r := rfl
    rw [e, sumF_add (fun k => if isB k (x.1, x.2) = true then x.2 else 0) (fun k => codeS k r), sumF_one hn (hasB_iff.1 (h x (by simp))), sumF_lines hn fun y hy => h y (by simp [hy]), sumL]
theorem sumF_ens {acs : List Pr} (hn : (acs.map Prod.fst).Nodup) : ∀ {l : List Et}, (∀ e ∈ l, OkE acs e) → sumF (fun k => allS k l) acs = 0
  | [], _ => sumF_none fun a _ => rfl
  | x :: r, h => by
    have e : (fun k => allS k (x :: r)) = fun k => codeS k x.lns + allS k r := rfl
    obtain ⟨ok, hs⟩ := h x (by simp)
    rw [e, sumF_add (fun k => codeS k x.lns) (fun k => allS k r), sumF_lines hn hs, sumF_ens hn fun y hy => h y (by simp [hy]), (enE_ok ok).2.2.2.2]; rfl
theorem inc_nodup : ∀ {l : List ByteArray}, Inc l → l.Nodup
  | [], _ => List.nodup_nil
  | a :: r, h => List.nodup_cons.2 ⟨(fun hm => absurd (h.1 a hm) (by rw [lt_irr]; simp)), inc_nodup h.2⟩
theorem book_zero {b : Bk} (g : Good b) (d : Int) : sumF (fun k => balS k d b.ens) b.acs = 0 :=
  sumF_ens (inc_nodup (acE_inc g.acs).1) (l := b.ens.filter fun e => decide (e.day ≤ d)) fun e he => g.each e ((List.mem_filter.1 he).1)
theorem Good.ba {b : Bk} (g : Good b) {c : ByteArray} {d : Int} (hc : hasB c b.acs = true) (hd : dyB d = true) : baE b c d = 0 := by unfold baE; rw [if_pos (bkE_iff.2 g), if_pos hc, if_pos hd]
theorem bal_bd {b : Bk} (g : Good b) (c : ByteArray) (d : Int) : -720000000000000 ≤ balS c d b.ens ∧ balS c d b.ens ≤ 720000000000000 := by
  have h := allS_bd (c := c) (l := b.ens.filter fun e => decide (e.day ≤ d)) fun x hx => (g.each x ((List.mem_filter.1 hx).1)).bd
  have hl : (b.ens.filter fun e => decide (e.day ≤ d)).length ≤ 60 := Nat.le_trans (List.length_filter_le _ _) g.many
  unfold balS
  omega
theorem sumF_bd {f : ByteArray → Int} (h : ∀ c, -720000000000000 ≤ f c ∧ f c ≤ 720000000000000) : ∀ l : List Pr, -720000000000000 * (l.length : Int) ≤ sumF f l ∧ sumF f l ≤ 720000000000000 * (l.length : Int)
  | [] => by simp [sumF]
  | a :: r => by
    have := sumF_bd h r
    have := h a.1
    rw [sumF, List.length_cons]
    constructor <;> omega
set_option maxRecDepth 100000 in
set_option maxHeartbeats 4000000 in
theorem bookZero_walk (q : BkA) (b : Bk) (t0 : Int) (w : World) (hM : BkM w q b) :
    Calls Try.prog 5 #[bkV q b, .int .i64 t0] w fun e w' => e = .returned (.bool true) ∧ Below w.heap.size w w' := by
  have hK2 := (Kept.refl w).alloc (bkO q b)
  have HB := Lib.hid (BBx.new w q b)
  have HM := Lib.hid (hM.later hK2)
  have ham : b.acs.length ≤ 9223372036854775807 := by have := hM.an; unfold maxLen at this; omega
  obtain ⟨d, hd⟩ : ∃ d, dyV t0 = d := ⟨_, rfl⟩
  have DD := Lib.hid (hd ▸ dyV_ok t0)
  have ED := Lib.hid hd
  generalize hW : w.alloc (bkO q b) = W at *
  have HW := Lib.hid hW
  have HK := Lib.hid hK2
  clear hM hW hK2 hd
  go_enter Try.func5, Try.ntmps5
  go_wp2_with fail
  rw [HW.out]
  refine (begun_any W).mono ?_
  rintro e w1 ⟨rfl, hK1⟩
  go_wp2_with fail
  refine (day_any t0 w1).mono ?_
  rintro e w2 ⟨rfl, rfl⟩
  rw [ED.out]
  obtain ⟨b0, b1, b2, b3⟩ := HB.out.later hK1
  have HK1 := Lib.hid hK1
  go_wp2
  clear b0 b1 b2 b3 hK1
  by_cases gd : bkE b = 0
  · have G := Lib.hid (bkE_iff.1 gd)
    have n24 := G.out.a24
    have SB := Lib.hid (fun j => sumF_bd (bal_bd G.out · d) (b.acs.take j))
    have FIN := Lib.hid (book_zero G.out d)
    clear gd
    go_loopw [5, 17] (fun s i wr => ∃ j : Nat, j ≤ b.acs.length ∧ i = .int .i64 j ∧ s = .int .i64 (sumF (fun k => balS k d b.ens) (b.acs.take j)) ∧ Kept w1 wr) (fun _ i _ => b.acs.length - (intOf i).toNat)
    case atStart => exact ⟨0, Nat.zero_le _, rfl, rfl, Kept.refl _⟩
    case round =>
      obtain ⟨j, hj, rfl, rfl, hK⟩ := hrel
      by_cases hlt : j < b.acs.length
      · have hKK := HK1.out.trans hK
        obtain ⟨p, off, hp, hR⟩ := (HM.out.later hKK).acs.at hlt
        have c0 := hR.c0 j hlt
        have c1 := hR.c1 j hlt
        have plt := hR.lt
        have SN := Lib.hid (show sumF (fun k => balS k d b.ens) (b.acs.take (j + 1)) = sumF (fun k => balS k d b.ens) (b.acs.take j) + balS (b.acs[j]).1 d b.ens by rw [List.take_succ_eq_append_getElem hlt, sumF_snoc])
        have HH := Lib.hid (show hasB (b.acs[j]).1 b.acs = true from hasB_iff.2 ⟨_, List.getElem_mem hlt, rfl⟩)
        obtain ⟨s1, s2⟩ := SB.out j
        rw [List.length_take, Nat.min_eq_left hj] at s1 s2
        obtain ⟨z1, z2⟩ := bal_bd G.out (b.acs[j]).1 d
        clear hR
        have HQ := Lib.hid (show q = ⟨some ⟨p, off, none⟩, q.ca, q.ae, q.ce⟩ by cases q; simp at hp; simp [hp])
        rw [hp] at *
        clear hp
        generalize b.acs[j] = y at *
        have kE := (Kept.refl wr).alloc (.cells #[.string y.1, .int .i64 y.2] 43)
        have hK3 := hKK.trans kE
        have BY := Lib.hid (bal_yes q b y.1 d (wr.alloc (.cells #[.string y.1, .int .i64 y.2] 43)) (HM.out.later hK3) (G.out.ba HH.out DD.out))
        obtain ⟨b0, b1, b2, b3⟩ := HB.out.later hKK
        generalize sumF (fun k => balS k d b.ens) (b.acs.take j) = S0 at *
        generalize balS y.1 d b.ens = S1 at *
        have wr3 : IntKind.i64.wrap (S0 + S1) = S0 + S1 := IntWalk.i64_in _ (by omega)
        go_wp2_with fail
        refine BY.out.mono ?_
        rintro e w5 ⟨rfl, hK5⟩
        go_wp2
        go_roundw
        case rel => exact ⟨j + 1, by omega, by go_num, by rw [SN.out], hK.trans (kE.trans hK5)⟩
        case measure => simp [intOf]; omega
      · obtain rfl : j = b.acs.length := by omega
        clear hlt
        rw [List.take_length, FIN.out]
        go_wp2
        go_ret
        exact ⟨rfl, HK.out.trans (HK1.out.trans hK)⟩
  · have NG := Lib.hid gd
    have BN := Lib.hid (fun c V (h : BkM V q b) => bal_no q b c d V h (by unfold baE; rw [if_neg NG.out]; exact NG.out))
    have BEQ := Lib.hid (fun c => show baE b c d = bkE b by unfold baE; rw [if_neg NG.out])
    have hne : (bkE b != 0) = true := by simpa using gd
    clear gd
    go_loopw [5, 17] (fun s i wr => i = .int .i64 0 ∧ s = .int .i64 0 ∧ Kept w1 wr) (fun _ i _ => b.acs.length - (intOf i).toNat)
    case atStart => exact ⟨rfl, rfl, Kept.refl _⟩
    case round =>
      obtain ⟨rfl, rfl, hK⟩ := hrel
      by_cases hlt : 0 < b.acs.length
      · have hKK := HK1.out.trans hK
        obtain ⟨p, off, hp, hR⟩ := (HM.out.later hKK).acs.at hlt
        have c0 := hR.c0 0 hlt
        have c1 := hR.c1 0 hlt
        have plt := hR.lt
        clear hR
        have i9 : (0 : Int) < (b.acs.length : Int) := by omega
        rw [hp] at *
        clear hp
        simp only [Nat.zero_mul, Nat.add_zero] at c0 c1
        generalize b.acs[0] = y at *
        have kE := (Kept.refl wr).alloc (.cells #[.string y.1, .int .i64 y.2] 43)
        have hK3 := hKK.trans kE
        have BY := Lib.hid (BN.out y.1 (wr.alloc (.cells #[.string y.1, .int .i64 y.2] 43)) (HM.out.later hK3))
        rw [BEQ.out] at BY
        have CK := Lib.hid (fun V (h : BkM V q b) => check_any q b V h)
        obtain ⟨b0, b1, b2, b3⟩ := HB.out.later hKK
        generalize bkE b = ek at *
        go_wp2_with fail
        refine BY.out.mono ?_
        rintro e w5 ⟨rfl, hK5⟩
        clear b0 b1 b2 b3
        obtain ⟨b0, b1, b2, b3⟩ := HB.out.later (hK3.trans hK5)
        have CKR := Lib.hid (CK.out w5 (HM.out.later (hK3.trans hK5)))
        go_wp2_with fail
        refine CKR.out.mono ?_
        rintro e w6 ⟨rfl, hK6⟩
        go_wp2
        go_ret
        exact ⟨by simp, HK.out.trans (hK3.trans (hK5.trans hK6))⟩
      · have i9 : b.acs.length = 0 := by omega
        rw [i9] at *
        go_wp2
        go_ret
        exact ⟨rfl, HK.out.trans (HK1.out.trans hK)⟩
end Go.Proofs.Ytndplbpdojbieaa
