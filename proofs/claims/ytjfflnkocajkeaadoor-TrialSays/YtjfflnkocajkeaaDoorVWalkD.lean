/-
  What package trial's Trial returns. No condition but those that each theorem names.
-/
import Derived.Test.YtjfflnkocajkeaaDoorVWalkC
namespace Go.Proofs.YtjfflnkocajkeaaDoor
open Go.RowKit
set_option linter.unusedVariables false

/-- P39: three answers. -/
def TrPost (w : World) (x y er : Int) (e : Ending) (w' : World) : Prop := e = .returned (.tuple #[.int .i64 x, .int .i64 y, .int .i64 er]) ∧ Kept w w'
set_option maxHeartbeats 2000000 in
theorem trial_no (q : BkA) (b : Bk) (d : Int) (w : World) (hM : BkM w q b) (er : tcE b d d ≠ 0) :
    Calls Tryd.prog 5 #[bkV q b, .int .i64 d] w (TrPost w 0 0 (tcE b d d)) := by
  have hK2 := (Kept.refl w).alloc (bkO q b)
  have HB := Lib.hid (BBx.new w q b)
  have CK := Lib.hid (tcheck_any q b d d _ (hM.later hK2))
  generalize hW : w.alloc (bkO q b) = W at HB CK hK2
  have HW := Lib.hid hW
  have HK := Lib.hid hK2
  have h2 : (tcE b d d != 0) = true := by simpa using er
  clear hM hW hK2 er
  generalize tcE b d d = ek at *
  obtain ⟨b0, b1, b2, b3⟩ := HB.out
  go_enter Tryd.func5, Tryd.ntmps5
  go_wp2_with fail
  rw [HW.out]
  refine CK.out.mono ?_
  rintro e w1 ⟨rfl, hK1⟩
  go_wp2
  exact bodyPost_ret (v := .tuple #[.int .i64 0, .int .i64 0, .int .i64 ek]) (by simp [results, Tryd.results5, go_sem]) rfl ⟨rfl, HK.out.trans hK1⟩
set_option maxRecDepth 100000 in
set_option maxHeartbeats 4000000 in
theorem trial_yes (q : BkA) (b : Bk) (d : Int) (w : World) (hM : BkM w q b) (ok : tcE b d d = 0) :
    Calls Tryd.prog 5 #[bkV q b, .int .i64 d] w (TrPost w (upS (fun k => balS k d b.ens) b.acs) (dnS (fun k => balS k d b.ens) b.acs) 0) := by
  obtain ⟨gd, d0, _, d1⟩ := tcE_ok ok
  have hK2 := (Kept.refl w).alloc (bkO q b)
  have HB := Lib.hid (BBx.new w q b)
  have HM := Lib.hid (hM.later hK2)
  have CK := Lib.hid (tcheck_any q b d d _ (hM.later hK2))
  rw [ok] at CK
  have G := Lib.hid gd
  have DD := Lib.hid ((dyB_iff d).2 ⟨d0, d1⟩)
  have SU := Lib.hid (fun j => ud_bd (bal_bd G.out · d) (b.acs.take j))
  have SZ := Lib.hid (fun j => ud_sum (fun k => balS k d b.ens) (b.acs.take j))
  have n24 := G.out.a24
  generalize hW : w.alloc (bkO q b) = W at HB CK hK2 HM
  have HW := Lib.hid hW
  have HK := Lib.hid hK2
  clear hM hW hK2 ok gd
  obtain ⟨b0, b1, b2, b3⟩ := HB.out
  go_enter Tryd.func5, Tryd.ntmps5
  go_wp2_with fail
  rw [HW.out]
  refine CK.out.mono ?_
  rintro e w1 ⟨rfl, hK1⟩
  clear b0 b1 b2 b3
  obtain ⟨b0, b1, b2, b3⟩ := HB.out.later hK1
  have HK1 := Lib.hid hK1
  go_wp2
  clear b0 b1 b2 b3 hK1
  go_loopw [8, 9, 24] (fun x y i wr => ∃ j : Nat, j ≤ b.acs.length ∧ i = .int .i64 j ∧ x = .int .i64 (upS (fun k => balS k d b.ens) (b.acs.take j)) ∧ y = .int .i64 (dnS (fun k => balS k d b.ens) (b.acs.take j)) ∧ Kept w1 wr) (fun _ _ i _ => b.acs.length - (intOf i).toNat)
  case atStart => exact ⟨0, Nat.zero_le _, rfl, rfl, rfl, Kept.refl _⟩
  case round =>
    obtain ⟨j, hj, rfl, rfl, rfl, hK⟩ := hrel
    by_cases hlt : j < b.acs.length
    · have hKK := HK1.out.trans hK
      obtain ⟨p, off, hp, hR⟩ := (HM.out.later hKK).acs.at hlt
      have c0 := hR.c0 j hlt
      have c1 := hR.c1 j hlt
      have plt := hR.lt
      have SN := Lib.hid (show upS (fun k => balS k d b.ens) (b.acs.take (j + 1)) = upS (fun k => balS k d b.ens) (b.acs.take j) + max (balS (b.acs[j]).1 d b.ens) 0 by rw [List.take_succ_eq_append_getElem hlt, upS_snoc])
      have SD := Lib.hid (show dnS (fun k => balS k d b.ens) (b.acs.take (j + 1)) = dnS (fun k => balS k d b.ens) (b.acs.take j) + max (-(balS (b.acs[j]).1 d b.ens)) 0 by rw [List.take_succ_eq_append_getElem hlt, dnS_snoc])
      have HH := Lib.hid (show hasB (b.acs[j]).1 b.acs = true from hasB_iff.2 ⟨_, List.getElem_mem hlt, rfl⟩)
      obtain ⟨s1, s2⟩ := SU.out j
      obtain ⟨_, s3, s4⟩ := SZ.out j
      rw [List.length_take, Nat.min_eq_left hj] at s1 s2
      obtain ⟨z1, z2⟩ := bal_bd G.out (b.acs[j]).1 d
      clear hR
      have HQ := Lib.hid (show q = ⟨some ⟨p, off, none⟩, q.ca, q.ae, q.ce⟩ by cases q; simp at hp; simp [hp])
      rw [hp] at *
      clear hp
      generalize b.acs[j] = y at *
      have kE := (Kept.refl wr).alloc (.cells #[.string y.1, .int .i64 y.2] 57)
      have hK3 := hKK.trans kE
      have BY := Lib.hid (bal_yes q b y.1 d (wr.alloc (.cells #[.string y.1, .int .i64 y.2] 57)) (HM.out.later hK3) (G.out.ba HH.out DD.out))
      obtain ⟨b0, b1, b2, b3⟩ := HB.out.later hKK
      generalize upS (fun k => balS k d b.ens) (b.acs.take j) = S0 at *
      generalize dnS (fun k => balS k d b.ens) (b.acs.take j) = S2 at *
      generalize balS y.1 d b.ens = S1 at *
      rcases (by omega : S1 = 0 ∨ (0 < S1) ∨ (S1 < 0)) with e0 | e0 | e0
      · subst e0
        go_wp2_with fail
        refine BY.out.mono ?_
        rintro e w5 ⟨rfl, hK5⟩
        go_wp2
        go_roundw
        case rel => exact ⟨j + 1, by omega, by go_num, by rw [SN.out]; simp, by rw [SD.out]; simp, hK.trans (kE.trans hK5)⟩
        case measure => simp [intOf]; omega
      · have N1 := Lib.hid (show S0 + max S1 0 = S0 + S1 by omega)
        have wr1 : IntKind.i64.wrap (S0 + S1) = S0 + S1 := IntWalk.i64_in _ (by omega)
        have wr2 : IntKind.i64.wrap (-S1) = -S1 := IntWalk.i64_in _ (by omega)
        go_wp2_with fail
        refine BY.out.mono ?_
        rintro e w5 ⟨rfl, hK5⟩
        go_wp2
        go_roundw
        case rel => exact ⟨j + 1, by omega, by go_num, by rw [SN.out], by rw [SD.out], hK.trans (kE.trans hK5)⟩
        case measure => simp [intOf]; omega
      · have N1 := Lib.hid (show S0 + max S1 0 = S0 by omega)
        have wr1 : IntKind.i64.wrap (S2 + -S1) = S2 + -S1 := IntWalk.i64_in _ (by omega)
        have wr2 : IntKind.i64.wrap (-S1) = -S1 := IntWalk.i64_in _ (by omega)
        go_wp2_with fail
        refine BY.out.mono ?_
        rintro e w5 ⟨rfl, hK5⟩
        go_wp2
        go_roundw
        case rel => exact ⟨j + 1, by omega, by go_num, by rw [SN.out], by rw [SD.out], hK.trans (kE.trans hK5)⟩
        case measure => simp [intOf]; omega
    · obtain rfl : j = b.acs.length := by omega
      clear hlt
      rw [List.take_length]
      go_wp2
      exact bodyPost_ret (v := .tuple #[.int .i64 (upS (fun k => balS k d b.ens) b.acs), .int .i64 (dnS (fun k => balS k d b.ens) b.acs), .int .i64 0]) (by simp [results, Tryd.results5, go_sem]) rfl ⟨rfl, HK.out.trans (HK1.out.trans hK)⟩
/-! The tests' first sale, as the reports see it. -/
def saleB : Bk := ⟨plainL, [saleE], -1⟩
theorem saleB_t : tcE saleB 5 5 = 0 ∧ tcE saleB 0 5 = 0 := by decide +kernel
theorem saleB_ud : upS (fun k => balS k 5 saleB.ens) saleB.acs = 7 ∧ dnS (fun k => balS k 5 saleB.ens) saleB.acs = 7 := by decide +kernel
theorem saleB_pr : prV saleB 0 5 = 7 ∧ prV saleB 5 5 = 7 := by decide +kernel
theorem saleB_sh : kinS saleB.acs 0 0 5 saleB.ens = 7 := by decide +kernel
theorem sale_post : poV plainB saleE = saleB := sale_po
end Go.Proofs.YtjfflnkocajkeaaDoor
