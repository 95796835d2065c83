/-
  What package trial's totals returns. No condition but those that each theorem names.
-/
import Derived.Test.YtdabangdjgkphaaVWalkA
namespace Go.Proofs.Ytdabangdjgkphaa
open Go.RowKit
set_option linter.unusedVariables false

abbrev zeroO : Obj := .cells #[.int .i64 0, .int .i64 0, .int .i64 0, .int .i64 0, .int .i64 0] 67
theorem Own.zero5 {w : World} {p : Nat} (hp : w.heap.size = p) : Own (w.alloc zeroO) p (five fun _ => 0) := Own.new5 (fun _ => 0) hp
/-- So much of each kind of accounts. -/
def TotPost (w : World) (k0 k1 k2 k3 k4 : Int) (e : Ending) (w' : World) : Prop := e = .returned (.agg #[.int .i64 k0, .int .i64 k1, .int .i64 k2, .int .i64 k3, .int .i64 k4]) ∧ Kept w w'
/-- What they come to ahead of a line, and behind it. -/
theorem kin_next {acs : List Pr} {g : Int → Int} {l : List Pr} {j n : Nat} (h : j < l.length) (hn : n < 5) (hk : kiV acs (l[j]).1 = n) :
    (five fun k => g k + kinL acs k (l.take j)).set n (g n + kinL acs n (l.take j) + (l[j]).2) = five fun k => g k + kinL acs k (l.take (j + 1)) := by
  refine five_set (fun k => g k + kinL acs k (l.take j)) _ hn fun k => ?_
  rw [kinL_snoc h, hk]; omega
theorem five_eq {g h : Int → Int} (e : ∀ k, g k = h k) : five g = five h := by rw [show g = h from funext e]
set_option maxRecDepth 100000 in
set_option maxHeartbeats 4000000 in
theorem totals_any (q : BkA) (b : Bk) (f t : Int) (w : World) (hM : BkM w q b) (gd : Good b) :
    Calls Try.prog 35 #[bkV q b, .int .i64 f, .int .i64 t] w (TotPost w (kinS b.acs 0 f t b.ens) (kinS b.acs 1 f t b.ens) (kinS b.acs 2 f t b.ens) (kinS b.acs 3 f t b.ens) (kinS b.acs 4 f t b.ens)) := by
  have k1 := ((Kept.refl w).alloc (bkO q b)).alloc zeroO
  have k2 := k1.alloc zeroO
  have hB := (BBx.new w q b).later ((Kept.refl (w.alloc (bkO q b))).alloc zeroO)
  have hR := Own.zero5 (w := w.alloc (bkO q b)) (p := w.heap.size + 1) (by simp)
  have hS := Own.zero5 (w := (w.alloc (bkO q b)).alloc zeroO) (p := w.heap.size + 1 + 1) (by simp)
  have hs1 : ((w.alloc (bkO q b)).alloc zeroO).heap.size = w.heap.size + 1 + 1 := by simp
  have kU := (Kept.refl ((w.alloc (bkO q b)).alloc zeroO)).alloc zeroO
  have HM := Lib.hid (hM.later k1)
  have G := Lib.hid gd
  have n60 := gd.many
  generalize hW : (w.alloc (bkO q b)).alloc zeroO = W at *
  generalize hV : W.alloc zeroO = V at *
  have HW := Lib.hid hW
  have HV := Lib.hid hV
  have HB := Lib.hid hB
  have HR := Lib.hid hR
  have HS := Lib.hid hS
  have HK := Lib.hid k1
  have KU := Lib.hid kU
  have hWs : W.heap.size ≤ w.heap.size + 1 + 1 := by omega
  clear hM gd hB hR hS k1 k2 kU hW hV hs1
  have EB := Lib.hid (fun k (hk : k < b.ens.length) => (G.out.each _ (List.getElem_mem hk)))
  have SB := Lib.hid (fun k j => kinS_bd (acs := b.acs) (k := k) (f := f) (t := t) (l := b.ens.take j) (by rw [List.length_take]; omega) fun x hx => (G.out.each x (List.mem_of_mem_take hx)).bd)
  have AC := Lib.hid G.out.acs
  have HV0 := Lib.hid (HB.out.later KU.out)
  obtain ⟨b0, b1, b2, b3⟩ := HV0.out
  go_enter Try.func35, Try.ntmps35
  go_wp2_with (with_reducible rw [HW.out]; with_reducible rw [HV.out])
  clear b0 b1 b2 b3
  have HS0 := Lib.hid (show Own V (w.heap.size + 1 + 1) (five fun k => kinS b.acs k f t (b.ens.take 0)) from HS.out)
  generalize w.heap.size + 1 + 1 = ps at *
  go_loopw [17] (fun i wr => ∃ k : Nat, k ≤ b.ens.length ∧ i = .int .i64 k ∧ Own wr ps (five fun n => kinS b.acs n f t (b.ens.take k)) ∧ Kept W wr) (fun i _ => b.ens.length - (intOf i).toNat)
  case atStart => exact ⟨0, Nat.zero_le _, rfl, HS0.out, KU.out⟩
  case round =>
    obtain ⟨k, hk, rfl, hO, hK⟩ := hrel
    by_cases hlt : k < b.ens.length
    · obtain ⟨p, off, hp, hR⟩ := HM.out.ens.at hlt
      obtain ⟨a, cap, c0', c1', c2', h1, h2, hL⟩ := hR.at k hlt
      have c0 := (hK.rd.1 _ _ hR.1).trans c0'
      have c1 := (hK.rd.1 _ _ hR.1).trans c1'
      have c2 := (hK.rd.1 _ _ hR.1).trans c2'
      have plt := Nat.lt_of_lt_of_le hR.1 hK.le
      clear c0' c1' c2'
      have SN := Lib.hid (fun n => kinS_snoc (acs := b.acs) (k := n) (f := f) (t := t) hlt)
      have SBK := Lib.hid (fun n => SB.out n k)
      have OKX := EB.out k hlt
      obtain ⟨l12, LB⟩ := OKX.bd
      have LBH := Lib.hid LB
      have KX := Lib.hid (fun y hy => kiV_bd AC.out (OKX.2 y hy))
      have HQ := Lib.hid (show q = ⟨q.aa, q.ca, some ⟨p, off, none⟩, q.ce⟩ by cases q; simp at hp; simp [hp])
      clear hR LB OKX
      rw [hp] at *
      clear hp
      generalize b.ens[k] = x at *
      have kE := (Kept.refl wr).alloc (.cells #[.string x.key, .int .i64 x.day, .slice a x.lns.length cap] 32)
      have HL := Lib.hid hL
      have HX := Lib.hid (EBx.new wr x.key x.day (.slice a x.lns.length cap) 32)
      have HO1 := Lib.hid (hO.later kE)
      have HK1 := Lib.hid (hK.trans kE)
      obtain ⟨x0, x1, x2, x3⟩ := HX.out
      clear hL h1 h2 hO hK kE
      by_cases d1 : x.day < f
      · have SK := Lib.hid (show five (fun n => kinS b.acs n f t (b.ens.take (k + 1))) = five (fun n => kinS b.acs n f t (b.ens.take k)) from five_eq fun n => by rw [SN.out, if_neg (by unfold inD; simp; omega)]; omega)
        clear SN
        go_wp2
        go_roundw
        case rel => exact ⟨k + 1, by omega, by go_num, by rw [SK.out]; exact HO1.out, HK1.out⟩
        case measure => simp [intOf]; omega
      · by_cases d2 : t < x.day
        · have SK := Lib.hid (show five (fun n => kinS b.acs n f t (b.ens.take (k + 1))) = five (fun n => kinS b.acs n f t (b.ens.take k)) from five_eq fun n => by rw [SN.out, if_neg (by unfold inD; simp; omega)]; omega)
          clear SN
          go_wp2
          go_roundw
          case rel => exact ⟨k + 1, by omega, by go_num, by rw [SK.out]; exact HO1.out, HK1.out⟩
          case measure => simp [intOf]; omega
        · have SK := Lib.hid (show five (fun n => kinS b.acs n f t (b.ens.take (k + 1))) = five (fun n => kinS b.acs n f t (b.ens.take k) + kinL b.acs n x.lns) from five_eq fun n => by rw [SN.out, if_pos (inD_iff.2 ⟨by omega, by omega⟩)])
          have HO2 := Lib.hid (show Own _ ps (five fun n => kinS b.acs n f t (b.ens.take k) + kinL b.acs n (x.lns.take 0)) from (by
            have e : five (fun n => kinS b.acs n f t (b.ens.take k) + kinL b.acs n (x.lns.take 0)) = five (fun n => kinS b.acs n f t (b.ens.take k)) := five_eq fun n => by simp [kinL]
            rw [e]; exact HO1.out))
          clear SN HO1
          go_wp2
          clear x0 x1 x2 x3 c0 c1 c2 plt d1 d2
          generalize wr.heap.size = sz at *
          generalize wr.alloc (.cells #[.string x.key, .int .i64 x.day, .slice a x.lns.length cap] 32) = w6 at *
          go_loopw [34] (fun i wr2 => ∃ j : Nat, j ≤ x.lns.length ∧ i = .int .i64 j ∧ Own wr2 ps (five fun n => kinS b.acs n f t (b.ens.take k) + kinL b.acs n (x.lns.take j)) ∧ Kept W wr2) (fun i _ => x.lns.length - (intOf i).toNat)
          case atStart => exact ⟨0, Nat.zero_le _, rfl, HO2.out, HK1.out⟩
          case round =>
            obtain ⟨j, hj, rfl, hO, hK⟩ := hrel
            by_cases hlj : j < x.lns.length
            · obtain ⟨p2, off2, rfl, hR2⟩ := (HL.out.later hK).at hlj
              have c0 := hR2.c0 j hlj
              have c1 := hR2.c1 j hlj
              have plt := hR2.lt
              obtain ⟨y1, y2⟩ := LBH.out _ (List.getElem_mem hlj)
              obtain ⟨kk0, kk4⟩ := KX.out _ (List.getElem_mem hlj)
              have KB := Lib.hid (fun n => kinL_bd (acs := b.acs) (k := n) (l := x.lns.take j) fun y hy => LBH.out y (List.mem_of_mem_take hy))
              have KN := Lib.hid (fun (n : Nat) (hn : n < 5) e => kin_next (acs := b.acs) (g := fun n => kinS b.acs n f t (b.ens.take k)) (n := n) hlj hn e)
              clear hR2
              generalize x.lns[j] = y at *
              obtain ⟨n, hn⟩ : ∃ n : Nat, kiV b.acs y.1 = n := ⟨(kiV b.acs y.1).toNat, by omega⟩
              have hn5 : n < 5 := by omega
              have KV := Lib.hid (show kdV (b.acs.filter (isB y.1)) = n from hn)
              have NX := Lib.hid (KN.out n hn5 hn)
              obtain ⟨s1, s2⟩ := SBK.out n
              obtain ⟨z1, z2⟩ := KB.out n
              rw [List.length_take, Nat.min_eq_left hj] at z1 z2
              have kL := (Kept.refl wr).alloc (.cells #[.string y.1, .int .i64 y.2] 49)
              have hK3 := hK.trans kL
              have HK3 := Lib.hid hK3
              have HO3 := Lib.hid (hO.later kL)
              have HM3 := Lib.hid (HM.out.later hK3)
              obtain ⟨b0, b1, b2, b3⟩ := HB.out.later hK
              have lx : wr.heap.size < (wr.alloc (.cells #[.string y.1, .int .i64 y.2] 49)).heap.size := by simp
              have HLX := Lib.hid (PBx.new wr y 49)
              have KY := Lib.hid (kind_yes q.aa b.acs q.ca y.1 (wr.alloc (.cells #[.string y.1, .int .i64 y.2] 49)) HM3.out.acs HM3.out.sha HM3.out.an AC.out)
              rw [KV.out] at KY
              clear kk0 kk4 KB KN hn KV hO hK hK3 kL
              generalize kdE (b.acs.filter (isB y.1)) = ke at *
              go_wp2_with fail
              refine KY.out.mono ?_
              rintro e w7 ⟨rfl, hK4⟩
              have hO4 := HO3.out.later hK4
              have hX4 := HLX.out.later hK4
              have HK4 := Lib.hid (HK3.out.trans hK4)
              have hc := hO4.cell n (by rw [five_len]; omega)
              rw [five_at _ hn5] at hc
              have hf := hO4.free n (by rw [five_len]; omega)
              have pl := hO4.lt
              obtain ⟨l0, l1, l2⟩ := hX4
              have HO4 := Lib.hid hO4
              have i0 : (0 : Int) ≤ (n : Int) := by omega
              have i1 : (n : Int) < 5 := by omega
              have w1 : IntKind.i64.wrap (kinS b.acs n f t (b.ens.take k) + kinL b.acs n (x.lns.take j) + y.2) = kinS b.acs n f t (b.ens.take k) + kinL b.acs n (x.lns.take j) + y.2 := IntWalk.i64_in _ (by omega)
              clear hO4 hK4 c0 c1 plt lx b0 b1 b2 b3
              go_wp2_with fail
              go_still_tail 7, (by kernel_rfl)
              change wpList _ _ _ _ _ w7.drew
              have FO := Lib.hid (show Own (w7.setCell ⟨ps, n, none⟩ (.int .i64 (kinS b.acs n f t (b.ens.take k) + kinL b.acs n (x.lns.take j) + y.2))) ps (five fun m => kinS b.acs m f t (b.ens.take k) + kinL b.acs m (x.lns.take (j + 1))) from (by
                have h := HO4.out.set n (kinS b.acs n f t (b.ens.take k) + kinL b.acs n (x.lns.take j) + y.2) (by rw [five_len]; omega)
                have e := NX.out
                rw [e] at h
                exact h))
              have FK := Lib.hid (HK4.out.setAt (b := ps) (i := n) (by omega) (.int .i64 (kinS b.acs n f t (b.ens.take k) + kinL b.acs n (x.lns.take j) + y.2)))
              go_wp2
              go_roundw
              case rel => exact ⟨j + 1, by omega, by go_num, FO.out.drew, FK.out.drew⟩
              case measure => simp [intOf]; omega
            · obtain rfl : j = x.lns.length := by omega
              clear hlj
              rw [List.take_length] at hO
              go_wp2
              go_roundw
              case rel => exact ⟨k + 1, by omega, by go_num, by rw [SK.out]; exact hO, hK⟩
              case measure => simp [intOf]; omega
    · obtain rfl : k = b.ens.length := by omega
      clear hlt
      rw [List.take_length] at hO
      obtain ⟨s0, s1, s2, s3, s4⟩ := hO.c5
      obtain ⟨r0, r1, r2, r3, r4⟩ := (HR.out.later hK).c5
      obtain ⟨f0, f1, f2, f3, f4⟩ := (HR.out.later hK).f5
      have sl := hO.lt
      have rl := (HR.out.later hK).lt
      have FK := Lib.hid (((((HK.out.trans hK).setAt (b := w.heap.size + 1) (i := 0) (by omega) (.int .i64 (kinS b.acs 0 f t b.ens))).setAt (b := w.heap.size + 1) (i := 1) (by omega) (.int .i64 (kinS b.acs 1 f t b.ens))).setAt (b := w.heap.size + 1) (i := 2) (by omega) (.int .i64 (kinS b.acs 2 f t b.ens))).setAt (b := w.heap.size + 1) (i := 3) (by omega) (.int .i64 (kinS b.acs 3 f t b.ens)) |>.setAt (b := w.heap.size + 1) (i := 4) (by omega) (.int .i64 (kinS b.acs 4 f t b.ens)))
      clear hO hK
      go_wp2
      exact bodyPost_ret (v := .agg #[.int .i64 (kinS b.acs 0 f t b.ens), .int .i64 (kinS b.acs 1 f t b.ens), .int .i64 (kinS b.acs 2 f t b.ens), .int .i64 (kinS b.acs 3 f t b.ens), .int .i64 (kinS b.acs 4 f t b.ens)]) (by simp [results, Try.results35, go_sem, r0, r1, r2, r3, r4]) rfl ⟨rfl, FK.out⟩
end Go.Proofs.Ytdabangdjgkphaa
