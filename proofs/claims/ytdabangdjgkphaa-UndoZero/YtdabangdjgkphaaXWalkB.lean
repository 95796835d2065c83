/-
  What package closing's closingLines returns. No condition but those that each theorem names.
-/
import Derived.Test.YtdabangdjgkphaaXWalkA
namespace Go.Proofs.Ytdabangdjgkphaa
open Go.RowKit
set_option linter.unusedVariables false

/-- A row of lines of the call's own. -/
def ClPost (w : World) (l : List Pr) (e : Ending) (w' : World) : Prop := ∃ a cap, e = .returned (.slice a l.length cap) ∧ PGr 49 w.heap.size w' (.slice a l.length cap) l ∧ Kept w w'
set_option maxRecDepth 100000 in
set_option maxHeartbeats 4000000 in
theorem clines_any (q : BkA) (b : Bk) (d : Int) (c : ByteArray) (w : World) (hM : BkM w q b) (gd : Good b) (dy : dyB d = true) :
    Calls Try.prog 29 #[bkV q b, .int .i64 d, .string c] w (ClPost w (clA (baF b d) c b.acs)) := by
  have hK2 := (Kept.refl w).alloc (bkO q b)
  have HB := Lib.hid (BBx.new w q b)
  have HM := Lib.hid (hM.later hK2)
  have l24 := gd.a24
  have G := Lib.hid gd
  have BF := Lib.hid (fun c => bal_bd gd c d)
  have SB := Lib.hid (fun j => clS_bd (f := baF b d) (fun c => bal_bd gd c d) (b.acs.take j))
  have BA := Lib.hid (fun V (k : Kept (w.alloc (bkO q b)) V) c (h : hasB c b.acs = true) => bal_yes q b c d V (HM.out.later k) (gd.ba h dy))
  have KI := Lib.hid ((acE_inc gd.acs).2)
  generalize hW : w.alloc (bkO q b) = W at HB hK2 HM BA
  have HW := Lib.hid hW
  have HK := Lib.hid hK2
  have hle : w.heap.size ≤ W.heap.size := hK2.le
  clear hM hW hK2 gd dy
  obtain ⟨b0, b1, b2, b3⟩ := HB.out
  go_enter Try.func29, Try.ntmps29
  go_wp2_with (with_reducible rw [HW.out])
  clear b0 b1 b2 b3
  go_loopw [7, 8, 16] (fun v s i wr => ∃ j : Nat, j ≤ b.acs.length ∧ i = .int .i64 j ∧ s = .int .i64 (sumL (clL (baF b d) (b.acs.take j))) ∧ PGr 49 W.heap.size wr v (clL (baF b d) (b.acs.take j)) ∧ Kept W wr) (fun _ _ i _ => b.acs.length - (intOf i).toNat)
  case atStart => exact ⟨0, Nat.zero_le _, rfl, rfl, PGr.nil _ _ _, Kept.refl _⟩
  case round =>
    obtain ⟨j, hj, rfl, rfl, hG, hK⟩ := hrel
    obtain ⟨ad, cp, rfl, _, _⟩ := hG.form
    by_cases hlt : j < b.acs.length
    · obtain ⟨p, off, hp, hR⟩ := (HM.out.later hK).acs.at hlt
      have c0 := hR.c0 j hlt
      have c1 := hR.c1 j hlt
      have plt := hR.lt
      have SN := Lib.hid (clL_snoc (f := baF b d) hlt)
      have HH := Lib.hid (show hasB (b.acs[j]).1 b.acs = true from hasB_iff.2 ⟨_, List.getElem_mem hlt, rfl⟩)
      obtain ⟨_, k0, k4⟩ := KI.out _ (List.getElem_mem hlt)
      obtain ⟨s1, s2⟩ := SB.out j
      have ll := clL_len (baF b d) (b.acs.take j)
      rw [List.length_take, Nat.min_eq_left hj] at s1 s2 ll
      obtain ⟨z1, z2⟩ := BF.out (b.acs[j]).1
      clear hR
      have HQ := Lib.hid (show q = ⟨some ⟨p, off, none⟩, q.ca, q.ae, q.ce⟩ by cases q; simp at hp; simp [hp])
      generalize b.acs[j] = x at *
      have kA := (Kept.refl wr).alloc (.cells #[.string x.1, .int .i64 x.2] 43)
      rw [hp] at *
      clear hp
      obtain ⟨b0, b1, b2, b3⟩ := HB.out.later hK
      have HK1 := Lib.hid (hK.trans kA)
      have HG1 := Lib.hid (hG.later kA)
      have BC := Lib.hid (BA.out _ (hK.trans kA) _ HH.out)
      by_cases k3 : x.2 < 3
      · have SK := Lib.hid (show clL (baF b d) (b.acs.take (j + 1)) = clL (baF b d) (b.acs.take j) by rw [SN.out]; unfold clO; rw [if_neg (fun z => by omega)]; simp)
        have n3 : (x.2 != 3) = true := by rw [bne_iff_ne]; omega
        have n4 : (x.2 != 4) = true := by rw [bne_iff_ne]; omega
        clear SN BC
        go_wp2
        go_roundw
        case rel => exact ⟨j + 1, by omega, by go_num, by rw [SK.out], by rw [SK.out]; exact HG1.out, HK1.out⟩
        case measure => simp [intOf]; omega
      · have kk : ((x.2 != 3) = false) ∨ ((x.2 != 3) = true ∧ (x.2 != 4) = false) := by
          rcases (by omega : x.2 = 3 ∨ x.2 = 4) with e | e <;> simp [e]
        by_cases f0 : balS x.1 d b.ens = 0
        · have SK := Lib.hid (show clL (baF b d) (b.acs.take (j + 1)) = clL (baF b d) (b.acs.take j) by rw [SN.out]; unfold clO; rw [if_neg (fun z => z.2 f0)]; simp)
          rw [f0] at BC
          clear SN z1 z2 f0
          clear k0 k4 k3
          rcases kk with kk | ⟨kk, kk2⟩
          all_goals
            go_wp2_with fail
            refine BC.out.mono ?_
            rintro e w5 ⟨rfl, hK5⟩
            go_wp2
            go_roundw
            case rel => exact ⟨j + 1, by omega, by go_num, by rw [SK.out], by rw [SK.out]; exact HG1.out.later hK5, HK1.out.trans hK5⟩
            case measure => simp [intOf]; omega
        · have f1 : (balS x.1 d b.ens == 0) = false := by simpa using f0
          have SK := Lib.hid (show clL (baF b d) (b.acs.take (j + 1)) = clL (baF b d) (b.acs.take j) ++ [(x.1, -(balS x.1 d b.ens))] by rw [SN.out]; unfold clO; rw [if_pos ⟨Int.not_lt.1 k3, f0⟩]; rfl)
          have SK2 := Lib.hid (show sumL (clL (baF b d) (b.acs.take (j + 1))) = sumL (clL (baF b d) (b.acs.take j)) - balS x.1 d b.ens by rw [SK.out, sumL_append]; simp [sumL]; omega)
          have w1' : IntKind.i64.wrap (-(balS x.1 d b.ens)) = -(balS x.1 d b.ens) := IntWalk.i64_in _ (by omega)
          have w2' : IntKind.i64.wrap (sumL (clL (baF b d) (b.acs.take j)) - balS x.1 d b.ens) = sumL (clL (baF b d) (b.acs.take j)) - balS x.1 d b.ens := IntWalk.i64_in _ (by omega)
          have HX := Lib.hid (PBx.new wr x 43)
          clear SN
          generalize balS x.1 d b.ens = bal at *
          generalize clL (baF b d) (b.acs.take j) = m at *
          generalize sumL m = sm at *
          clear k0 k4 k3
          rcases kk with kk | ⟨kk, kk2⟩
          all_goals
            go_wp2_with fail
            refine BC.out.mono ?_
            rintro e w5 ⟨rfl, hK5⟩
            obtain ⟨x0, x1, x2⟩ := HX.out.later hK5
            have hG3 := HG1.out.later hK5
            have hK3 := HK1.out.trans hK5
            have hG4 := hG3.later ((Kept.refl w5).alloc (.cells #[.string x.1, .int .i64 (-bal)] 49))
            have hK4 := hK3.alloc (.cells #[.string x.1, .int .i64 (-bal)] 49)
            have N0 := Lib.hid (show (w5.alloc (.cells #[.string x.1, .int .i64 (-bal)] 49)).cell? ⟨w5.heap.size, 0, none⟩ = some (.string x.1) by simp)
            have N1 := Lib.hid (show (w5.alloc (.cells #[.string x.1, .int .i64 (-bal)] 49)).cell? ⟨w5.heap.size, 1, none⟩ = some (.int .i64 (-bal)) by simp)
            clear b0 b1 b2 b3 c0 c1 plt
            go_wp2_with (at_builtin; refine app_pr 49 30 pairLine Try.underlying30 rfl _ _ rfl (z := (x.1, -bal)) rfl rfl hG4 N0.out N1.out (by omega) (by have := hK4.size; omega) ?_)
            intro v' w6 hG5 hgr
            have hK6 := hG4.below (Nat.le_refl _) hK4 hgr
            obtain ⟨a5, c5, rfl, _, _⟩ := hG5.form
            clear hG4 hK4 hG3 hK3 hgr x0 x1 x2
            go_wp2
            go_roundw
            case rel => exact ⟨j + 1, by omega, by go_num, by rw [SK2.out], by rw [SK.out]; exact hG5, hK6⟩
            case measure => simp [intOf]; omega
    · obtain rfl : j = b.acs.length := by omega
      clear hlt
      obtain ⟨s1, s2⟩ := SB.out b.acs.length
      have ll := clL_len (baF b d) b.acs
      rw [List.take_length] at hG s1 s2 ⊢
      by_cases s0 : sumL (clL (baF b d) b.acs) = 0
      · have E := Lib.hid (show clA (baF b d) c b.acs = clL (baF b d) b.acs by unfold clA; rw [if_pos s0]; simp)
        rw [s0]
        go_wp2
        go_ret
        exact ⟨ad, cp, by rw [E.out]; rfl, by rw [E.out]; exact hG.mono hle, HK.out.trans hK⟩
      · have E := Lib.hid (show clA (baF b d) c b.acs = clL (baF b d) b.acs ++ [(c, -(sumL (clL (baF b d) b.acs)))] by unfold clA; rw [if_neg s0])
        have s3 : (sumL (clL (baF b d) b.acs) == 0) = false := by simpa using s0
        have w1' : IntKind.i64.wrap (-(sumL (clL (baF b d) b.acs))) = -(sumL (clL (baF b d) b.acs)) := IntWalk.i64_in _ (by omega)
        generalize clL (baF b d) b.acs = m at *
        generalize sumL m = sm at *
        have hG4 := hG.later ((Kept.refl wr).alloc (.cells #[.string c, .int .i64 (-sm)] 49))
        have hK4 := hK.alloc (.cells #[.string c, .int .i64 (-sm)] 49)
        have N0 := Lib.hid (show (wr.alloc (.cells #[.string c, .int .i64 (-sm)] 49)).cell? ⟨wr.heap.size, 0, none⟩ = some (.string c) by simp)
        have N1 := Lib.hid (show (wr.alloc (.cells #[.string c, .int .i64 (-sm)] 49)).cell? ⟨wr.heap.size, 1, none⟩ = some (.int .i64 (-sm)) by simp)
        go_wp2_with (at_builtin; refine app_pr 49 30 pairLine Try.underlying30 rfl _ _ rfl (z := (c, -sm)) rfl rfl hG4 N0.out N1.out (by omega) (by have := hK4.size; omega) ?_)
        intro v' w6 hG5 hgr
        have hK6 := hG4.below (Nat.le_refl _) hK4 hgr
        obtain ⟨a5, c5, rfl, _, _⟩ := hG5.form
        clear hG4 hK4 hgr
        go_wp2
        go_ret
        exact ⟨a5, c5, by rw [E.out]; rfl, by rw [E.out]; exact hG5.mono hle, HK.out.trans hK6⟩
end Go.Proofs.Ytdabangdjgkphaa
