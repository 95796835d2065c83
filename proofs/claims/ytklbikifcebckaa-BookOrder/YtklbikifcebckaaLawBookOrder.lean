/-
  The walk of talkeep.BookOrder: it returns true at every input. No condition but those that each theorem names.
-/
import Derived.Test.YtklbikifcebckaaIGrow
import Derived.Test.YtklbikifcebckaaHWalkH
namespace Go.Proofs.Ytklbikifcebckaa
open Go.RowKit
set_option linter.unusedVariables false

theorem EShort.snoc {l : List Et} {x : Et} (h : EShort l) (k : x.key.size ≤ maxLen ∧ x.lns.length ≤ maxLen ∧ Shortish x.lns) : EShort (l ++ [x]) := fun y hy => by
  rcases List.mem_append.1 hy with hy | hy
  · exact h y hy
  · rw [List.mem_singleton] at hy; subst hy; exact k
set_option maxRecDepth 100000 in
set_option maxHeartbeats 16000000 in
theorem bookOrder_walk (q : BkA) (b : Bk) (a : Option Addr) (l : List Et) (cap : Nat) (t0 : Int) (w : World) (hM : BkM w q b) (hA : EArg w a l) (hs : EShort l) (hc : l.length ≤ cap) (hcm : cap ≤ maxLen) :
    Calls Try.prog 3 #[bkV q b, .slice a l.length cap, .int .i64 t0] w fun e w' => e = .returned (.bool true) ∧ Below w.heap.size w w' := by
  have hK2 := (Kept.refl w).alloc (bkO q b)
  have HB := Lib.hid (BBx.new w q b)
  have HM := Lib.hid (hM.later hK2)
  have HA := Lib.hid (hA.later hK2)
  have HS := Lib.hid hs
  generalize hW : w.alloc (bkO q b) = W at *
  have HW := Lib.hid hW
  have HK := Lib.hid hK2
  have hcm2 : cap ≤ 9223372036854775807 := by unfold maxLen at hcm; omega
  obtain ⟨t, ht⟩ : ∃ t, min l.length 20 = t := ⟨_, rfl⟩
  have htl : t ≤ l.length := by omega
  have ht20 : t ≤ 20 := by omega
  have hmin : min (l.length : Int) 20 = (t : Int) := by omega
  have g1 : (0 : Int) ≤ (t : Int) := by omega
  have g2 : (t : Int) ≤ (cap : Int) := by omega
  clear hM hA hs hW hK2 ht
  go_enter Try.func3, Try.ntmps3
  go_wp2_with fail
  rw [HW.out]
  refine (begun_any W).mono ?_
  rintro e w1 ⟨rfl, hK1⟩
  obtain ⟨b0, b1, b2, b3⟩ := HB.out.later hK1
  have CK := Lib.hid (check_any q b w1 (HM.out.later hK1))
  by_cases gd0 : bkE b = 0
  · have GD := Lib.hid (bkE_iff.1 gd0)
    rw [gd0] at CK
    clear gd0
    go_wp2_with fail
    refine CK.out.mono ?_
    rintro e w2 ⟨rfl, hK3⟩
    have K2 := Lib.hid (hK1.trans hK3)
    clear b0 b1 b2 b3
    obtain ⟨b0, b1, b2, b3⟩ := HB.out.later K2.out
    have V7 := Lib.hid (vb_new (w := w2) rfl q b)
    have kX := Lib.hid ((Kept.refl w2).alloc (bkO q b))
    have HA2 := Lib.hid (HA.out.later K2.out)
    have HM2 := Lib.hid (HM.out.later K2.out)
    have HB2 := Lib.hid (HB.out.later K2.out)
    clear hK1 hK3
    go_wp2
    clear b0 b1 b2 b3
    generalize hX : w2.alloc (bkO q b) = X at *
    have HX := Lib.hid hX
    have hXs : X.heap.size = w2.heap.size + 1 := by rw [← hX]; simp
    clear hX
    go_loopw [8, 32] (fun s8 i wr => ∃ (k : Nat) (qx : BkA) (x : Bk) (done : List Et), k ≤ t ∧ i = .int .i64 k ∧ EGr w2 (w2.heap.size + 1) wr s8 done ∧ Hid (Ord b x done) ∧ EShort done ∧ done.length ≤ k ∧ VBk wr w2.heap.size qx x ∧ BkH w2 wr w2.heap.size qx x ∧ Kept w2 wr) (fun _ i _ => t - (intOf i).toNat)
    case atStart => exact ⟨0, q, b, [], Nat.zero_le _, rfl, EGr.nil _ _ _, Lib.hid (Ord.refl GD.out), (fun x hx => by cases hx), Nat.zero_le _, V7.out, .inl HM2.out, kX.out⟩
    case round =>
      obtain ⟨k, qx, x, done, hk, rfl, hG, hOrd, hSh, hdk, hV, hBk, hK⟩ := hrel
      by_cases hlt : k < t
      · have hkl : k < l.length := by omega
        obtain ⟨p, off, rfl, hR⟩ := HA2.out.at hkl
        obtain ⟨ax, capx, c0', c1', c2', h1, h2, hL⟩ := hR.at k hkl
        have c0 := (hK.rd.1 _ _ hR.1).trans c0'
        have c1 := (hK.rd.1 _ _ hR.1).trans c1'
        have c2 := (hK.rd.1 _ _ hR.1).trans c2'
        have plt := Nat.lt_of_lt_of_le hR.1 hK.le
        have hSX := HS.out _ (List.getElem_mem hkl)
        clear hR c0' c1' c2'
        generalize l[k] = en at *
        have LW := Lib.hid (show LnA w2 (.slice ax en.lns.length capx) en.lns from ⟨ax, capx, rfl, h1, h2, hL⟩)
        have kE := (Kept.refl wr).alloc (.cells #[.string en.key, .int .i64 en.day, .slice ax en.lns.length capx] 31)
        have HEx := Lib.hid (show EtM (wr.alloc (.cells #[.string en.key, .int .i64 en.day, .slice ax en.lns.length capx] 31)) en ax capx from ⟨hSX.1, hSX.2.1, hL.later (hK.trans kE), hSX.2.2, h1, h2⟩)
        have HMb := Lib.hid ((hBk.m hK).later kE)
        have swr : w2.heap.size < wr.heap.size := hV.box.lt
        obtain ⟨⟨v0, v1, v2, v3⟩, f0, f1, f2⟩ := id hV
        have HEB := Lib.hid (EBx.new wr en.key en.day (.slice ax en.lns.length capx) 31)
        obtain ⟨ad, cp, rfl, hcp, hcpm⟩ := hG.form
        have HSX := Lib.hid hSX
        have HSH := Lib.hid hSh
        clear hL h1 h2 hSX hSh
        by_cases ok : poE x en = 0
        · have PY := Lib.hid (post_yes qx x en ax capx _ HMb.out HEx.out ok)
          have OS := Lib.hid (hOrd.out.step ok)
          obtain ⟨y, hy⟩ : ∃ y, poV x en = y := ⟨_, rfl⟩
          rw [hy] at PY OS
          clear ok hy hOrd
          go_wp2_with fail
          refine PY.out.mono ?_
          rintro e w4 ⟨q2, rfl, hF, hK4⟩
          have kk := kE.trans hK4
          have s2 : wr.heap.size < w4.heap.size := by have := hK4.le; simp at this; omega
          have hV2 := hV.later kk
          have hG2 := hG.later kk
          have GL := Lib.hid (hG.lt)
          have HF := Lib.hid hF
          have HX4 := Lib.hid (HEB.out.later hK4)
          obtain ⟨x0, x1, x2, x3⟩ := HX4.out
          have HV2 := Lib.hid hV2
          have HG2 := Lib.hid hG2
          have HKK := Lib.hid (hK.trans kk)
          clear v0 v1 v2 v3 f0 f1 f2 hF hV2 hG2 hG hV hBk hK4 kE kk hK c0 c1 c2 plt
          have yb := BBx.new w4 q2 y
          obtain ⟨y0, y1, y2, y3⟩ := id yb
          have xb := HX4.out.later ((Kept.refl w4).alloc (bkO q2 y))
          have kY := (Kept.refl w4).alloc (bkO q2 y)
          have OST := Lib.hid (show OSt w2 (w4.alloc (bkO q2 y)) w2.heap.size w4.heap.size qx q2 x y (wr.alloc (.cells #[.string en.key, .int .i64 en.day, .slice ax en.lns.length capx] 31)).heap.size (.slice ad done.length cp) done from ⟨HG2.out.later kY, HV2.out.later kY, yb, HF.out.later kY, HKK.out.trans kY, fun j e => by have := GL.out j e; simp; omega, Nat.le_refl _⟩)
          go_wp2_with fail
          generalize hY : w4.alloc (bkO q2 y) = Y at *
          have HY := Lib.hid hY
          clear hY kY yb
          obtain ⟨z0, z1, z2, z3⟩ := id xb
          clear x0 x1 x2 x3
          go_region_law ((refine step_en rfl (.tmp 45) (.tmp 47) rfl rfl rfl OST.out (by first | exact (Kept.refl _).alloc _ | exact ((Kept.refl _).alloc _).drew) LW.out (by simp) (by simp) (by simp) (by omega) ?_; intro v' w' hS2; clear y0 y1 y2 y3; obtain ⟨y0, y1, y2, y3⟩ := hS2.yb; obtain ⟨⟨v0, v1, v2, v3⟩, f0, f1, f2⟩ := hS2.vx))
          all_goals
            have R1 := Lib.hid (vb_put hS2.vx (q' := q2) (b' := y))
            have R2 := Lib.hid (hS2.yf.set3 (r := w2.heap.size) (by simp; omega) (.slice q2.aa y.acs.length q2.ca) (.slice q2.ae y.ens.length q2.ce) (.int .i64 y.shut))
            have R3 := Lib.hid (((hS2.gr.set (p := w2.heap.size) (i := 0) (u := .slice q2.aa y.acs.length q2.ca) (by omega)).set (p := w2.heap.size) (i := 1) (u := .slice q2.ae y.ens.length q2.ce) (by omega)).set (p := w2.heap.size) (i := 2) (u := .int .i64 y.shut) (by omega))
            have R4 := Lib.hid (hS2.kp.set3 (p := w2.heap.size) (Nat.le_refl _) (.slice q2.aa y.acs.length q2.ca) (.slice q2.ae y.ens.length q2.ce) (.int .i64 y.shut))
            clear z0 z1 z2 z3 y0 y1 y2 y3 xb v0 v1 v2 v3 f0 f1 f2
            go_wp2
            go_roundw
            case rel => exact ⟨k + 1, q2, y, done ++ [en], by omega, by go_num, R3.out, Lib.hid OS.out, HSH.out.snoc HSX.out, by simp; omega, R1.out, .inr ⟨_, by simp; omega, R2.out⟩, R4.out⟩
            case measure => simp [intOf]; omega
        · have PN := Lib.hid (post_no qx x en ax capx _ HMb.out HEx.out ok)
          have hne : (poE x en == 0) = false := by simpa using ok
          clear ok
          generalize poE x en = er at *
          go_wp2_with fail
          refine PN.out.mono ?_
          rintro e w4 ⟨rfl, hK4⟩
          have kk := (kE.trans hK4).alloc noBk
          have hV2 := hV.later kk
          have hG2 := hG.later kk
          have hB2 := hBk.later kk
          have hKK := hK.trans kk
          clear v0 v1 v2 v3 f0 f1 f2 hK4 kE kk c0 c1 c2 plt hV hG hBk hK
          go_wp2
          go_roundw
          case rel => exact ⟨k + 1, qx, x, done, by omega, by go_num, hG2, hOrd, HSH.out, by omega, hV2, hB2, hKK⟩
          case measure => simp [intOf]; omega
      · obtain rfl : k = t := by omega
        clear hlt
        obtain ⟨ad, cp, rfl, hcp, hcpm⟩ := hG.form
        have HDone := Lib.hid (hG.arg hK)
        have HSh := Lib.hid hSh
        have HOrd := Lib.hid hOrd.out
        have HVx := Lib.hid hV
        have HXm := Lib.hid (hBk.m hK)
        obtain ⟨b0, b1, b2, b3⟩ := HB2.out.later hK
        obtain ⟨X1, rfl⟩ : ∃ X1 : World, X1 = wr := ⟨_, rfl⟩
        have HMX := Lib.hid (HM2.out.later hK)
        have KX1 := Lib.hid hK
        have V13 := Lib.hid (vb_new (w := X1) rfl q b)
        have kX1 := Lib.hid ((Kept.refl X1).alloc (bkO q b))
        have d20 : done.length ≤ 20 := by omega
        clear hG hSh hOrd hV hBk hK g1 g2 hmin
        go_wp2
        clear b0 b1 b2 b3
        generalize hX2 : X1.alloc (bkO q b) = X2 at *
        clear hX2
        generalize hpy : X1.heap.size = py at *
        have hpy2 : X1.heap.size ≤ py := by omega
        clear hpy
        go_loopw [53] (fun i wr => ∃ (k : Nat) (qy : BkA) (y : Bk), k ≤ done.length ∧ i = .int .i64 k ∧ VBk wr py qy y ∧ BkH X1 wr py qy y ∧ Hid (Part b x y) ∧ Kept X1 wr) (fun i _ => done.length - (intOf i).toNat)
        case atStart => exact ⟨0, q, b, Nat.zero_le _, rfl, V13.out, .inl HMX.out, Lib.hid (Part.refl GD.out HOrd.out), kX1.out⟩
        case round =>
          obtain ⟨k, qy, y, hk, rfl, hV, hBk, hP, hK⟩ := hrel
          by_cases hlt : k < done.length
          · have m0 : 1 ≤ (done.length : Int) := by omega
            have wb := wnV_bd t0 (n := (done.length : Int)) m0
            obtain ⟨r, hr⟩ : ∃ r : Nat, wnV t0 (done.length : Int) = r := ⟨(wnV t0 (done.length : Int)).toNat, by omega⟩
            have WN := Lib.hid (fun V => wn_any t0 (done.length : Int) V m0 (by omega))
            rw [hr] at WN wb
            clear hr
            obtain ⟨j, hj, hjm⟩ : ∃ j : Nat, ((k : Int) + (r : Int)).tmod (done.length : Int) = j ∧ j < done.length := ⟨(k + r) % done.length, by rw [Int.tmod_eq_emod_of_nonneg (by omega), ← Int.natCast_add, ← Int.natCast_emod], Nat.mod_lt _ (by omega)⟩
            have u1 : IntKind.i64.wrap ((k : Int) + (r : Int)) = (k : Int) + (r : Int) := IntWalk.i64_in _ (by omega)
            have u2 : IntKind.i64.wrap (j : Int) = (j : Int) := IntWalk.i64_in _ (by omega)
            have u3 : ((done.length : Int) == 0) = false := by rw [beq_eq_false_iff_ne]; omega
            have u6 : ¬ done = [] := fun e => by rw [e] at hlt; simp at hlt
            have u7 : ¬ done.length = 0 := by omega
            have u8 : ¬ (done.length : Int) = 0 := by omega
            have u4 : (0 : Int) ≤ (j : Int) := by omega
            have u5 : (j : Int) < (done.length : Int) := by omega
            obtain ⟨p, off, hpd, hR⟩ := (HDone.out.later hK).at hjm
            obtain ⟨ax, capx, c0, c1, c2, h1, h2, hL⟩ := hR.at j hjm
            have plt := hR.1
            have hSX := HSh.out _ (List.getElem_mem hjm)
            have STP := Lib.hid (HOrd.out.pstep hP.out (List.getElem_mem hjm))
            have IDX := Lib.hid (fun z (hz : z < done.length) (e : z = j) => show done[z] = done[j] by subst e; rfl)
            clear hR
            rw [hpd] at *
            generalize done[j] = en at *
            have HEN := Lib.hid (show EtM wr en ax capx from ⟨hSX.1, hSX.2.1, hL, hSX.2.2, h1, h2⟩)
            have HMy := Lib.hid (hBk.m hK)
            obtain ⟨⟨v0, v1, v2, v3⟩, f0, f1, f2⟩ := id hV
            have pyl := hV.box.lt
            have PY := Lib.hid (fun V (k2 : Kept wr V) => post_yes qy y en ax capx V (HMy.out.later k2) (HEN.out.later k2) STP.out.1)
            have CKK := Lib.hid (show ∀ w', Kept wr w' → Kept wr w' ∧ (w'.cell? ⟨py, 0, none⟩ = some (.slice qy.aa y.acs.length qy.ca) ∧ w'.cell? ⟨py, 1, none⟩ = some (.slice qy.ae y.ens.length qy.ce) ∧ w'.cell? ⟨py, 2, none⟩ = some (.int .i64 y.shut)) ∧ w'.cell? ⟨p, off + j * 3, none⟩ = some (.string en.key) ∧ w'.cell? ⟨p, off + j * 3 + 1, none⟩ = some (.int .i64 en.day) ∧ w'.cell? ⟨p, off + j * 3 + 2, none⟩ = some (.slice ax en.lns.length capx) from (by
              have HVv := Lib.hid hV
              have HC := Lib.hid (And.intro c0 (And.intro c1 c2))
              intro w' k2
              obtain ⟨_, x0, x1, x2⟩ := (HVv.out.later k2).box
              exact ⟨k2, ⟨x0, x1, x2⟩, (k2.rd.1 _ _ plt).trans HC.out.1, (k2.rd.1 _ _ plt).trans HC.out.2.1, (k2.rd.1 _ _ plt).trans HC.out.2.2⟩))
            clear hL h1 h2 hSX
            go_wp2_with fail
            go_cut [15, 16] (fun sp se wx => PoBoxF wr (poV y en) sp se wx)
            case first =>
              go_region_held3 (fun w' => Kept wr w' ∧ (w'.cell? ⟨py, 0, none⟩ = some (.slice qy.aa y.acs.length qy.ca) ∧ w'.cell? ⟨py, 1, none⟩ = some (.slice qy.ae y.ens.length qy.ce) ∧ w'.cell? ⟨py, 2, none⟩ = some (.int .i64 y.shut)) ∧ w'.cell? ⟨p, off + j * 3, none⟩ = some (.string en.key) ∧ w'.cell? ⟨p, off + j * 3 + 1, none⟩ = some (.int .i64 en.day) ∧ w'.cell? ⟨p, off + j * 3 + 2, none⟩ = some (.slice ax en.lns.length capx))
                (first | (refine CKK.out _ ?_; repeat' (first | (with_reducible assumption) | (with_reducible refine Kept.drew ?_) | (with_reducible refine Kept.alloc ?_ _) | (with_reducible refine Kept.setAt ?_ ?_ _) | (with_reducible exact Kept.refl _) | omega)))
                (first
                  | (go_at_call 15; refine (WN.out _).mono ?_; rintro e w' ⟨rfl, rfl⟩)
                  | (go_at_call 14; refine (PY.out _ (And.left (by assumption))).mono ?_; rintro e w' ⟨q2, rfl, hF, hkk⟩; have hKa := Kept.trans (a := wr) (And.left (by assumption)) hkk; (try (have hz := vbk_box (w := wr) (hkk.undrew); obtain ⟨⟨z8, z9, z10, z11⟩, z12, z13, z14⟩ := id hz)); clear hkk))
              all_goals go_wp2_with fail
              all_goals go_meet
              all_goals refine ⟨_, q2, rfl, rfl, ?_, ?_, ?_, ?_⟩
              all_goals first
                | exact hKa.le
                | omega
                | exact BBx.newAt rfl _ _
                | exact vbk_fill hz q2 _
                | exact (hF.later ((Kept.refl _).alloc _)).mono (by first | exact Nat.le_refl _ | (simp; done) | (simp; omega))
                | exact (hF.set3 (by first | (simp; done) | (simp; omega)) _ _ _).mono (by first | exact Nat.le_refl _ | (simp; done) | (simp; omega))
                | exact hKa.alloc _
                | exact hKa.set3 (by first | exact Nat.le_refl _ | omega) _ _ _
            case rest =>
              obtain ⟨g, q2, rfl, rfl, hg, hBy, hF, hK7⟩ := hcut
              obtain ⟨V, rfl⟩ : ∃ V : World, V = wc := ⟨_, rfl⟩
              generalize hy2 : poV y en = y2 at *
              have hVV := hV.later hK7
              have R1 := Lib.hid (vb_put hVV (q' := q2) (b' := y2))
              have R2 := Lib.hid (hF.set3 (r := py) (by omega) (.slice q2.aa y2.acs.length q2.ca) (.slice q2.ae y2.ens.length q2.ce) (.int .i64 y2.shut))
              have R4 := Lib.hid ((hK.trans hK7).set3 (p := py) (by omega) (.slice q2.aa y2.acs.length q2.ca) (.slice q2.ae y2.ens.length q2.ce) (.int .i64 y2.shut))
              have SP := Lib.hid STP.out.2
              have HBy := Lib.hid hBy
              have HVV := Lib.hid hVV
              clear v0 v1 v2 v3 f0 f1 f2 c0 c1 c2 plt hV hBk hK hK7 hF hBy hVV PY CKK STP HMy HEN
              obtain ⟨y0, y1, y2', y3⟩ := HBy.out
              obtain ⟨⟨v0, v1, v2, v3⟩, f0, f1, f2⟩ := HVV.out
              go_wp2
              go_roundw
              case rel => exact ⟨k + 1, q2, y2, by omega, by go_num, R1.out, .inr ⟨_, by omega, R2.out⟩, Lib.hid SP.out.1, R4.out⟩
              case measure => simp [intOf]; omega
          · obtain rfl : k = done.length := by omega
            clear hlt
            go_wp2
            go_loopw [79] (fun i wr => ∃ (k : Nat) (qy : BkA) (y : Bk), k ≤ done.length ∧ i = .int .i64 k ∧ VBk wr py qy y ∧ BkH X1 wr py qy y ∧ Hid (Part b x y ∧ ∀ z (hz : z < done.length), done.length - k ≤ z → done[z] ∈ y.ens) ∧ Kept X1 wr) (fun i _ => done.length - (intOf i).toNat)
            case atStart => exact ⟨0, qy, y, Nat.zero_le _, rfl, hV, hBk, Lib.hid ⟨hP.out, fun z hz hk => absurd hk (by omega)⟩, hK⟩
            case round =>
              clear hV hBk hP hK
              obtain ⟨k, qy, y, hk, rfl, hV, hBk, hP, hK⟩ := hrel
              by_cases hlt : k < done.length
              · obtain ⟨j, hjn⟩ : ∃ j : Nat, j = done.length - 1 - k := ⟨_, rfl⟩
                have hjm : j < done.length := by omega
                have HJ := Lib.hid hjn
                have u1 : IntKind.i64.wrap ((done.length : Int) - 1) = (done.length : Int) - 1 := IntWalk.i64_in _ (by omega)
                have hj : (done.length : Int) - 1 - (k : Int) = (j : Int) := by omega
                have u2 : IntKind.i64.wrap (j : Int) = (j : Int) := IntWalk.i64_in _ (by omega)
                have u3 : IntKind.i64.wrap ((done.length : Int) - 1 - (k : Int)) = (j : Int) := by rw [hj]; exact u2
                have u4 : (0 : Int) ≤ (j : Int) := by omega
                have u5 : (j : Int) < (done.length : Int) := by omega
                have PREV := Lib.hid hP.out.2
                clear hjn
                obtain ⟨p, off, hpd, hR⟩ := (HDone.out.later hK).at hjm
                obtain ⟨ax, capx, c0, c1, c2, h1, h2, hL⟩ := hR.at j hjm
                have plt := hR.1
                have hSX := HSh.out _ (List.getElem_mem hjm)
                have STP := Lib.hid (HOrd.out.pstep hP.out.1 (List.getElem_mem hjm))
                have IDX := Lib.hid (fun z (hz : z < done.length) (e : z = j) => show done[z] = done[j] by subst e; rfl)
                clear hR
                rw [hpd] at *
                generalize done[j] = en at *
                have HEN := Lib.hid (show EtM wr en ax capx from ⟨hSX.1, hSX.2.1, hL, hSX.2.2, h1, h2⟩)
                have HMy := Lib.hid (hBk.m hK)
                obtain ⟨⟨v0, v1, v2, v3⟩, f0, f1, f2⟩ := id hV
                have pyl := hV.box.lt
                have PY := Lib.hid (fun V (k2 : Kept wr V) => post_yes qy y en ax capx V (HMy.out.later k2) (HEN.out.later k2) STP.out.1)
                have CKK := Lib.hid (show ∀ w', Kept wr w' → Kept wr w' ∧ (w'.cell? ⟨py, 0, none⟩ = some (.slice qy.aa y.acs.length qy.ca) ∧ w'.cell? ⟨py, 1, none⟩ = some (.slice qy.ae y.ens.length qy.ce) ∧ w'.cell? ⟨py, 2, none⟩ = some (.int .i64 y.shut)) ∧ w'.cell? ⟨p, off + j * 3, none⟩ = some (.string en.key) ∧ w'.cell? ⟨p, off + j * 3 + 1, none⟩ = some (.int .i64 en.day) ∧ w'.cell? ⟨p, off + j * 3 + 2, none⟩ = some (.slice ax en.lns.length capx) from (by
                  have HVv := Lib.hid hV
                  have HC := Lib.hid (And.intro c0 (And.intro c1 c2))
                  intro w' k2
                  obtain ⟨_, x0, x1, x2⟩ := (HVv.out.later k2).box
                  exact ⟨k2, ⟨x0, x1, x2⟩, (k2.rd.1 _ _ plt).trans HC.out.1, (k2.rd.1 _ _ plt).trans HC.out.2.1, (k2.rd.1 _ _ plt).trans HC.out.2.2⟩))
                clear hL h1 h2 hSX
                go_wp2_with fail
                go_cut [18, 19] (fun sp se wx => PoBoxF wr (poV y en) sp se wx)
                case first =>
                  go_region_held3 (fun w' => Kept wr w' ∧ (w'.cell? ⟨py, 0, none⟩ = some (.slice qy.aa y.acs.length qy.ca) ∧ w'.cell? ⟨py, 1, none⟩ = some (.slice qy.ae y.ens.length qy.ce) ∧ w'.cell? ⟨py, 2, none⟩ = some (.int .i64 y.shut)) ∧ w'.cell? ⟨p, off + j * 3, none⟩ = some (.string en.key) ∧ w'.cell? ⟨p, off + j * 3 + 1, none⟩ = some (.int .i64 en.day) ∧ w'.cell? ⟨p, off + j * 3 + 2, none⟩ = some (.slice ax en.lns.length capx))
                    (first | (refine CKK.out _ ?_; repeat' (first | (with_reducible assumption) | (with_reducible refine Kept.drew ?_) | (with_reducible refine Kept.alloc ?_ _) | (with_reducible refine Kept.setAt ?_ ?_ _) | (with_reducible exact Kept.refl _) | omega)))
                    (first
                      | (go_at_call 14; refine (PY.out _ (And.left (by assumption))).mono ?_; rintro e w' ⟨q2, rfl, hF, hkk⟩; have hKa := Kept.trans (a := wr) (And.left (by assumption)) hkk; (try (have hz := vbk_box (w := wr) (hkk.undrew); obtain ⟨⟨z8, z9, z10, z11⟩, z12, z13, z14⟩ := id hz)); clear hkk))
                  all_goals go_wp2_with fail
                  all_goals go_meet
                  all_goals refine ⟨_, q2, rfl, rfl, ?_, ?_, ?_, ?_⟩
                  all_goals first
                    | exact hKa.le
                    | omega
                    | exact BBx.newAt rfl _ _
                    | exact vbk_fill hz q2 _
                    | exact (hF.later ((Kept.refl _).alloc _)).mono (by first | exact Nat.le_refl _ | (simp; done) | (simp; omega))
                    | exact (hF.set3 (by first | (simp; done) | (simp; omega)) _ _ _).mono (by first | exact Nat.le_refl _ | (simp; done) | (simp; omega))
                    | exact hKa.alloc _
                    | exact hKa.set3 (by first | exact Nat.le_refl _ | omega) _ _ _
                case rest =>
                  obtain ⟨g, q2, rfl, rfl, hg, hBy, hF, hK7⟩ := hcut
                  obtain ⟨V, rfl⟩ : ∃ V : World, V = wc := ⟨_, rfl⟩
                  generalize hy2 : poV y en = y2 at *
                  have hVV := hV.later hK7
                  have R1 := Lib.hid (vb_put hVV (q' := q2) (b' := y2))
                  have R2 := Lib.hid (hF.set3 (r := py) (by omega) (.slice q2.aa y2.acs.length q2.ca) (.slice q2.ae y2.ens.length q2.ce) (.int .i64 y2.shut))
                  have R4 := Lib.hid ((hK.trans hK7).set3 (p := py) (by omega) (.slice q2.aa y2.acs.length q2.ca) (.slice q2.ae y2.ens.length q2.ce) (.int .i64 y2.shut))
                  have SP := Lib.hid STP.out.2
                  have NXT := Lib.hid (show ∀ z (hz : z < done.length), done.length - (k + 1) ≤ z → done[z] ∈ y2.ens from fun z hz hk2 => by
                    by_cases e : z = j
                    · rw [IDX.out z hz e]; exact SP.out.2.1
                    · exact SP.out.2.2 _ (PREV.out z hz (by have := HJ.out; omega)))
                  have HBy := Lib.hid hBy
                  have HVV := Lib.hid hVV
                  clear v0 v1 v2 v3 f0 f1 f2 c0 c1 c2 plt hV hBk hK hK7 hF hBy hVV PY CKK STP HMy HEN
                  obtain ⟨y0, y1, y2', y3⟩ := HBy.out
                  obtain ⟨⟨v0, v1, v2, v3⟩, f0, f1, f2⟩ := HVV.out
                  go_wp2
                  go_roundw
                  case rel => exact ⟨k + 1, q2, y2, by omega, by go_num, R1.out, .inr ⟨_, by omega, R2.out⟩, Lib.hid ⟨SP.out.1, NXT.out⟩, R4.out⟩
                  case measure => simp [intOf]; omega
              · obtain rfl : k = done.length := by omega
                clear hlt
                have EQ := Part.all HOrd.out hP.out.1 (fun e he => by
                  obtain ⟨z, hz, rfl⟩ := List.mem_iff_getElem.1 he
                  exact hP.out.2 z hz (by omega))
                subst EQ
                have gx := HOrd.out.good
                have SB := Lib.hid (sbook_yes qx qy y wr (HXm.out.later hK) (hBk.m hK) gx.a24 gx.many gx.lines)
                obtain ⟨⟨y0, y1, y2, y3⟩, _, _, _⟩ := id hV
                obtain ⟨⟨x0, x1, x2, x3⟩, _, _, _⟩ := HVx.out.later hK
                clear gx hBk hP
                go_wp2_with fail
                refine SB.out.mono ?_
                rintro e wz ⟨rfl, hKz⟩
                go_wp2
                go_ret
                exact ⟨rfl, HK.out.trans (K2.out.trans (KX1.out.trans (hK.trans hKz)))⟩
  · have hne : (bkE b != 0) = true := by simpa using gd0
    clear gd0
    generalize bkE b = ek at *
    go_wp2_with fail
    refine CK.out.mono ?_
    rintro e w2 ⟨rfl, hK3⟩
    go_wp2
    go_ret
    exact ⟨rfl, HK.out.trans (hK1.trans hK3)⟩
end Go.Proofs.Ytklbikifcebckaa
