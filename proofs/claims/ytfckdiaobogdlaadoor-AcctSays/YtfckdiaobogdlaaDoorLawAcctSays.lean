/-
  The law AcctSays: for every list of accounts and every text it answers true; nothing that was there is turned. Condition: lengths that a machine's memory lets in.
-/
import Derived.Test.YtfckdiaobogdlaaDoorCWalkC
namespace Go.Proofs.YtfckdiaobogdlaaDoor
open Go.RowKit
set_option linter.unusedVariables false

/-- A list of one empty account. -/
def nulL : List Pr := [(⟨#[]⟩, 0)]
theorem nul_bad : acE nulL = 3 := by decide +kernel
theorem one_code : codeB ⟨#[49]⟩ = true := by decide +kernel
theorem short_nul : Shortish nulL := by
  intro x hx
  simp [nulL] at hx
  subst hx
  show 0 ≤ maxLen
  decide
theorem nul_row (w : World) (p : Nat) (t : TypeId) (hp : w.heap.size = p) : PRow (w.alloc (.cells #[.string ⟨#[]⟩, .int .i64 0] t)) p 0 nulL := by
  subst hp
  refine ⟨by simp, fun j hj => ?_, fun j hj => ?_⟩
  all_goals
    obtain rfl : j = 0 := by simpa [nulL] using hj
    simp [nulL]
theorem und_take {c : ByteArray} {l : List Pr} {k : Nat} (h : k < l.length) : undL c (l.take (k + 1)) = undL c (l.take k) ++ (if preB c (l[k]).1 = true then [(l[k]).1] else []) := by
  unfold undL
  rw [filt_take h, List.map_append]
  split <;> simp
theorem is_pre {c : ByteArray} {x : Pr} (h : isB c x = true) : preB c x.1 = true := by
  rw [isB_iff.1 h]
  unfold preB
  rw [Lib.extract_toList, Lib.toList_data, Nat.sub_zero, List.drop_zero, take_all]
  simp
theorem PBx.grown {w w' : World} {p : Nat} {x : Pr} {row : Option Nat} (h : PBx w p x) (g : w.grownBy w' row) (hne : some p ≠ row) : PBx w' p x :=
  ⟨Nat.lt_of_lt_of_le h.lt g.size, g.cell h.c0 hne, g.cell h.c1 hne⟩
set_option maxRecDepth 100000 in
set_option maxHeartbeats 8000000 in
theorem acctSays_walk (a : Option Addr) (l : List Pr) (cap : Nat) (c : ByteArray) (w : World) (hA : PArg w a l) (hs : Shortish l) (hn : l.length ≤ maxLen) (hc : c.size ≤ maxLen) :
    Calls Tryd.prog 3 #[.slice a l.length cap, .string c] w fun e w' => e = .returned (.bool true) ∧ Kept w w' := by
  have HA := Lib.hid hA
  have HS := Lib.hid hs
  have HN := Lib.hid hn
  have HC := Lib.hid hc
  have hc' : c.size ≤ 9223372036854775807 := hc
  clear hA hs hn hc
  by_cases ok : acE l = 0
  · have OK := Lib.hid ok
    have l24 := acE_24 ok
    have OC := Lib.hid (one_kind (c := c) ok)
    clear ok
    go_enter Tryd.func3, Tryd.ntmps3
    go_wp2_with fail
    refine (kind_yes a l cap c _ HA.out HS.out HN.out OK.out).mono ?_
    rintro e w1 ⟨rfl, hK1⟩
    have HM := Lib.hid (show l.filter (isB c) = l.filter (isB c) from rfl)
    generalize hkv : kdV (l.filter (isB c)) = kv at *
    generalize hke : kdE (l.filter (isB c)) = ke at *
    have HKV := Lib.hid hkv
    have HKE := Lib.hid hke
    clear hkv hke HM
    go_wp2_with fail
    refine (under_yes a l cap c _ (HA.out.later hK1) HS.out HN.out HC.out OK.out).mono ?_
    rintro e w2 ⟨q, hq, rfl, hT, hK2⟩
    have hK3 := hK1.trans hK2
    clear hK1 hK2 hq
    go_wp2_with fail
    refine (raccts_any a l cap _ (HA.out.later hK3) HS.out HN.out).mono ?_
    rintro e w3 ⟨rfl, hK4⟩
    rw [OK.out]
    have hK5 := hK3.trans hK4
    have hT5 := hT.later hK4
    clear hK3 hK4 hT
    go_wp2_with fail
    refine (code_any _ _ HC.out).mono ?_
    rintro e w4 ⟨rfl, rfl⟩
    go_wp2_with fail
    refine (rcode_any _ _ HC.out).mono ?_
    rintro e w4 ⟨rfl, hK6⟩
    have hK7 := hK5.trans hK6
    have hT7 := hT5.later hK6
    clear hK5 hK6 hT5
    generalize codeB c = cb at *
    have cb1 : (cb != cb) = false := by simp
    go_wp2_with fail
    refine (acheck_any a l cap _ (HA.out.later hK7) HS.out HN.out).mono ?_
    rintro e w5 ⟨rfl, hK8⟩
    rw [OK.out]
    have hK9 := hK7.trans hK8
    have hT9 := hT7.later hK8
    clear hK7 hK8 hT7
    go_wp2_with fail
    refine (code_any _ _ (by decide)).mono ?_
    rintro e w6 ⟨rfl, rfl⟩
    rw [one_code]
    have kb := (Kept.refl w5).alloc (.cells #[.string ⟨#[]⟩, .int .i64 0] 32)
    have hK10 := hK9.trans kb
    have hT10 := hT9.later kb
    clear hK9 hT9 kb
    go_wp2_with fail
    refine (acheck_any (some ⟨w5.heap.size, 0, none⟩) nulL 1 _ (.inr ⟨_, 0, rfl, nul_row w5 _ 32 rfl⟩) short_nul (by decide)).mono ?_
    rintro e w7 ⟨rfl, hK11⟩
    rw [nul_bad]
    have HK := Lib.hid (hK10.trans hK11)
    have HT := Lib.hid (show TArg w7 (some ⟨q, 0, none⟩) (undL c l) from .inr ⟨q, 0, rfl, (hT10.later hK11).row⟩)
    clear hK10 hK11 hT10
    go_wp2
    go_loopw [10, 11, 70] (fun v u i wr => ∃ k : Nat, k ≤ l.length ∧ i = .int .i64 k ∧ u = .int .i64 (lastK ((l.take k).filter (isB c))) ∧ TGr w7.heap.size wr v (undL c (l.take k)) ∧ Kept w7 wr) (fun _ _ i _ => l.length - (intOf i).toNat)
    case atStart => exact ⟨0, Nat.zero_le _, rfl, rfl, TGr.nil _ _, Kept.refl _⟩
    case round =>
      obtain ⟨k, hk, rfl, rfl, hG, hK⟩ := hrel
      obtain ⟨ag, cg, rfl, _, _⟩ := hG.form
      by_cases hlt : k < l.length
      · obtain ⟨p, off, rfl, hR⟩ := (HA.out.later (HK.out.trans hK)).at hlt
        have c0 := hR.c0 k hlt
        have c1 := hR.c1 k hlt
        have plt := hR.lt
        have HF := Lib.hid (filt_take (P := isB c) hlt)
        have HU := Lib.hid (und_take (c := c) hlt)
        have hx := HS.out l[k] (List.getElem_mem _)
        have hx' : (l[k]).1.size ≤ 9223372036854775807 := hx
        have ul : (undL c (l.take k)).length ≤ 24 := by
          have h1 : (undL c (l.take k)).length ≤ (l.take k).length := by unfold undL; rw [List.length_map]; exact List.length_filter_le _ _
          rw [List.length_take] at h1; omega
        clear hR hx
        generalize l[k] = x at *
        generalize undL c (l.take k) = m at *
        generalize hz : lastK ((l.take k).filter (isB c)) = z at *
        have HZ := Lib.hid hz
        clear hz
        have kb := (Kept.refl wr).alloc (.cells #[.string x.1, .int .i64 x.2] 32)
        have hX := PBx.new wr x 32
        have hK1 := hK.trans kb
        have hG1 := hG.later kb
        by_cases s1 : c.size ≤ x.1.size
        · cases s2 : ((x.1.extract 0 c.size).toList == c.toList)
          · have P0 := Lib.hid (show preB c x.1 = false by unfold preB; simp [s1, s2])
            have I0 : isB c x = false := by
              cases q : isB c x
              · rfl
              · rw [is_pre q] at P0; cases P0.out
            have I1 := Lib.hid I0
            unfold isB at I0
            clear hX hG hK kb
            go_wp2
            go_roundw
            case rel => exact ⟨k + 1, by omega, by go_num, by rw [HF.out, I1.out]; simpa using HZ.out.symm, by rw [HU.out, P0.out]; simpa using hG1, hK1⟩
            case measure => simp [intOf]; omega
          · have P0 := Lib.hid (show preB c x.1 = true by unfold preB; simp [s1, s2])
            have n0 : ((wr.alloc (.cells #[.string x.1, .int .i64 x.2] 32)).alloc (.cells #[.string x.1] 9)).cell? ⟨wr.heap.size + 1, 0, none⟩ = some (.string x.1) := by simp
            have kb2 := (Kept.refl (wr.alloc (.cells #[.string x.1, .int .i64 x.2] 32))).alloc (.cells #[.string x.1] 9)
            have hK2 := hK1.trans kb2
            have hG2 := hG1.later kb2
            have hX2 := hX.later kb2
            have N0 := Lib.hid n0
            have far : some wr.heap.size ≠ (Value.slice ag m.length cg).ownBlock := fun e => by have := (hG.own.lt wr.heap.size e.symm).2; omega
            clear n0 kb kb2 hG hG1 hK hK1 hX
            go_wp2_with (at_builtin; refine app_tx rfl _ _ rfl rfl rfl hG2 N0.out (by omega) hK2.le ?_)
            intro v' w8 hG8 hgr
            have hK8 := hG2.below (Nat.le_refl _) hK2 hgr
            obtain ⟨x0, x1, x2⟩ := hX2.grown hgr far
            obtain ⟨a8, c8, rfl, _, _⟩ := hG8.form
            clear hG2 hK2 hgr hX2 far N0 c0 c1 plt
            generalize wr.heap.size = bx at *
            cases I0 : isB c x
            · have I1 := Lib.hid I0
              unfold isB at I0
              go_wp2
              go_roundw
              case rel => exact ⟨k + 1, by omega, by go_num, by rw [HF.out, I1.out]; simpa using HZ.out.symm, by rw [HU.out, P0.out]; simpa using hG8, hK8⟩
              case measure => simp [intOf]; omega
            · have I1 := Lib.hid I0
              unfold isB at I0
              go_wp2
              go_roundw
              case rel => exact ⟨k + 1, by omega, by go_num, by rw [HF.out, I1.out]; simp [lastK_snoc], by rw [HU.out, P0.out]; simpa using hG8, hK8⟩
              case measure => simp [intOf]; omega
        · have P0 := Lib.hid (show preB c x.1 = false by unfold preB; simp [s1])
          have I0 : isB c x = false := by
            cases q : isB c x
            · rfl
            · rw [is_pre q] at P0; cases P0.out
          have I1 := Lib.hid I0
          unfold isB at I0
          clear hX hG hK kb
          go_wp2
          go_roundw
          case rel => exact ⟨k + 1, by omega, by go_num, by rw [HF.out, I1.out]; simpa using HZ.out.symm, by rw [HU.out, P0.out]; simpa using hG1, hK1⟩
          case measure => simp [intOf]; omega
      · obtain rfl : k = l.length := by omega
        clear hlt
        rw [List.take_length] at *
        have ul : (undL c l).length ≤ 24 := by
          have h1 : (undL c l).length ≤ l.length := by unfold undL; rw [List.length_map]; exact List.length_filter_le _ _
          omega
        have HX := Lib.hid (tequal_yes (undL c l) _ _ _ (undL c l).length cg wr (by omega) rfl (HT.out.later hK) hG.arg)
        have hKK := HK.out.trans hK
        clear hG hK
        rcases OC.out with ⟨f1, f2⟩ | ⟨x, f1, f2, f3⟩
        · have K1 : kv = 0 := by rw [← HKV.out, f1]; rfl
          have K2 : ke = 4 := by rw [← HKE.out, f1]; rfl
          subst K1 K2
          rw [f2]
          clear f1 f2
          go_wp2_with fail
          refine HX.out.mono ?_
          rintro e w9 ⟨rfl, hD⟩
          go_wp2
          go_ret
          exact ⟨rfl, hKK.trans hD.kept⟩
        · have K1 : kv = x.2 := by rw [← HKV.out, f1]; rfl
          have K2 : ke = 0 := by rw [← HKE.out, f1]; rfl
          subst K1 K2
          rw [f2]
          have f4 : ¬ x.2 < 0 := by omega
          clear f1 f2 f3
          go_wp2_with fail
          refine HX.out.mono ?_
          rintro e w9 ⟨rfl, hD⟩
          go_wp2
          go_ret
          exact ⟨rfl, hKK.trans hD.kept⟩
  · have OK := Lib.hid ok
    have O2 : (acE l != 0) = true := by simpa using ok
    clear ok
    go_enter Tryd.func3, Tryd.ntmps3
    go_wp2_with fail
    refine (kind_no a l cap c _ HA.out HS.out HN.out OK.out).mono ?_
    rintro e w1 ⟨rfl, hK1⟩
    go_wp2_with fail
    refine (under_no a l cap c _ (HA.out.later hK1) HS.out HN.out OK.out).mono ?_
    rintro e w2 ⟨rfl, hK2⟩
    have hK3 := hK1.trans hK2
    clear hK1 hK2
    go_wp2_with fail
    refine (raccts_any a l cap _ (HA.out.later hK3) HS.out HN.out).mono ?_
    rintro e w3 ⟨rfl, hK4⟩
    have hK5 := hK3.trans hK4
    clear hK3 hK4
    go_wp2_with fail
    refine (code_any _ _ HC.out).mono ?_
    rintro e w4 ⟨rfl, rfl⟩
    go_wp2_with fail
    refine (rcode_any _ _ HC.out).mono ?_
    rintro e w4 ⟨rfl, hK6⟩
    have hK7 := hK5.trans hK6
    clear hK5 hK6
    generalize codeB c = cb at *
    have cb1 : (cb != cb) = false := by simp
    go_wp2_with fail
    refine (acheck_any a l cap _ (HA.out.later hK7) HS.out HN.out).mono ?_
    rintro e w5 ⟨rfl, hK8⟩
    have hK9 := hK7.trans hK8
    clear hK7 hK8
    generalize acE l = er at *
    have er1 : (er != er) = false := by simp
    have er2 : (er == er) = true := by simp
    go_wp2_with fail
    refine (code_any _ _ (by decide)).mono ?_
    rintro e w6 ⟨rfl, rfl⟩
    rw [one_code]
    have kb := (Kept.refl w5).alloc (.cells #[.string ⟨#[]⟩, .int .i64 0] 32)
    have hK10 := hK9.trans kb
    clear hK9 kb
    go_wp2_with fail
    refine (acheck_any (some ⟨w5.heap.size, 0, none⟩) nulL 1 _ (.inr ⟨_, 0, rfl, nul_row w5 _ 32 rfl⟩) short_nul (by decide)).mono ?_
    rintro e w7 ⟨rfl, hK11⟩
    rw [nul_bad]
    have hK12 := hK10.trans hK11
    clear hK10 hK11
    go_wp2
    go_ret
    exact ⟨rfl, hK12⟩
end Go.Proofs.YtfckdiaobogdlaaDoor
