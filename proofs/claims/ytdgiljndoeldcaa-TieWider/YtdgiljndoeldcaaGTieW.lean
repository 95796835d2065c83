/-
  What tie.Tie returns: the walk. No condition but those that each theorem names.
-/
import Derived.Test.YtdgiljndoeldcaaGTie
import Derived.Test.YtdgiljndoeldcaaPRow
namespace Go.Proofs.Ytdgiljndoeldcaa
open Go.RowKit Go.Sort
set_option linter.unusedVariables false

theorem nI_erase (O : List Nat) (k : Nat) : (nI O).eraseIdx k = nI (O.eraseIdx k) := by
  unfold nI
  rw [List.eraseIdx_eq_take_drop_succ, List.eraseIdx_eq_take_drop_succ, List.map_append, List.map_take, List.map_drop]
theorem nI_get (O : List Nat) (k : Nat) (h : k < (nI O).length) : (nI O)[k] = ((O[k]'(by rw [nI_len] at h; exact h) : Nat) : Int) := by simp [nI]
theorem own_argT {w : World} {g : Nat} {s : List Int} (h : Own w g s) : JArg eI w (some ⟨g, 0, none⟩) s := .inr ⟨g, 0, rfl, jrow_ints h.lt (fun j hj => by rw [Nat.zero_add]; exact h.cell j hj)⟩
/-- P49: its error. -/
def tiE (a b : List Mv) (h : Int) : Int := if itE a = 0 then (if itE b = 0 then (if 0 ≤ h ∧ h ≤ 292193 then 0 else 1) else itE b) else itE a
structure TiOk (a b : List Mv) (h : Int) : Prop where
  oa : ItOk a
  ob : ItOk b
  h0 : 0 ≤ h
  h1 : h ≤ 292193
theorem tiE_iff {a b : List Mv} {h : Int} : tiE a b h = 0 ↔ TiOk a b h := by
  unfold tiE
  constructor
  · intro e
    by_cases c : itE a = 0
    · rw [if_pos c] at e
      by_cases d : itE b = 0
      · rw [if_pos d] at e
        by_cases f : 0 ≤ h ∧ h ≤ 292193
        · exact ⟨itE_iff.1 c, itE_iff.1 d, f.1, f.2⟩
        · rw [if_neg f] at e; cases e
      · rw [if_neg d] at e; exact absurd e d
    · rw [if_neg c] at e; exact absurd e c
  · intro k
    rw [if_pos (itE_iff.2 k.oa), if_pos (itE_iff.2 k.ob), if_pos ⟨k.h0, k.h1⟩]
def TieNone (w : World) (E : Int) (e : Ending) (w' : World) : Prop := e = .returned (.tuple #[.slice none 0 0, .int .i64 E]) ∧ Kept w w'
/-- The three boxes. -/
def tieB3 (w : World) (a b : Option Addr) (n m ca cb : Nat) (h : Int) : World := ((w.alloc (.cells #[.slice a n ca] 22)).alloc (.cells #[.slice b m cb] 22)).alloc (.cells #[.int .i64 h] 3)
structure B3 (w W : World) (a b : Option Addr) (n m ca cb : Nat) (h : Int) : Prop where
  k : Kept w W
  sz : w.heap.size + 3 ≤ W.heap.size
  xa : W.cell? ⟨w.heap.size, 0, none⟩ = some (.slice a n ca)
  xb : W.cell? ⟨w.heap.size + 1, 0, none⟩ = some (.slice b m cb)
  xw : W.cell? ⟨w.heap.size + 2, 0, none⟩ = some (.int .i64 h)
theorem B3.new (w : World) (a b : Option Addr) (n m ca cb : Nat) (h : Int) : B3 w (tieB3 w a b n m ca cb h) a b n m ca cb h := by
  have s1 : (w.alloc (.cells #[.slice a n ca] 22)).heap.size = w.heap.size + 1 := by simp
  have s2 : ((w.alloc (.cells #[.slice a n ca] 22)).alloc (.cells #[.slice b m cb] 22)).heap.size = w.heap.size + 2 := by simp
  have k1 := (Kept.refl (w.alloc (.cells #[.slice a n ca] 22))).alloc (.cells #[.slice b m cb] 22)
  have k2 := (Kept.refl ((w.alloc (.cells #[.slice a n ca] 22)).alloc (.cells #[.slice b m cb] 22))).alloc (.cells #[.int .i64 h] 3)
  have c1 : (w.alloc (.cells #[.slice a n ca] 22)).cell? ⟨w.heap.size, 0, none⟩ = some (.slice a n ca) := by simp
  have c2 : ((w.alloc (.cells #[.slice a n ca] 22)).alloc (.cells #[.slice b m cb] 22)).cell? ⟨w.heap.size + 1, 0, none⟩ = some (.slice b m cb) := by
    rw [← s1]; simp
  refine ⟨(((Kept.refl w).alloc _).alloc _).alloc _, by unfold tieB3; simp, ?_, ?_, ?_⟩
  · exact ((k1.trans k2).rd.1 _ _ (by omega)).trans c1
  · exact (k2.rd.1 _ _ (by omega)).trans c2
  · have h3 := World.cell?_alloc_new ((w.alloc (.cells #[.slice a n ca] 22)).alloc (.cells #[.slice b m cb] 22)) #[.int .i64 h] 3 0
    rw [s2] at h3
    exact h3
theorem B3.later {w W W' : World} {a b : Option Addr} {n m ca cb : Nat} {h : Int} (x : B3 w W a b n m ca cb h) (k : Kept W W') : B3 w W' a b n m ca cb h :=
  ⟨x.k.trans k, by have := k.size; have := x.sz; omega, (k.rd.1 _ _ (by have := x.sz; omega)).trans x.xa, (k.rd.1 _ _ (by have := x.sz; omega)).trans x.xb, (k.rd.1 _ _ (by have := x.sz; omega)).trans x.xw⟩
set_option maxHeartbeats 4000000 in
theorem tie_no (a b : Option Addr) (l m : List Mv) (ca cb : Nat) (h : Int) (w : World) (hl : l.length ≤ maxLen) (hm : m.length ≤ maxLen) (hA : JArg eP w a l) (hB : JArg eP w b m) (er : tiE l m h ≠ 0) :
    Calls Try.prog 23 #[.slice a l.length ca, .slice b m.length cb, .int .i64 h] w (TieNone w (tiE l m h)) := by
  have X := Lib.hid (B3.new w a b l.length m.length ca cb h)
  have AC := Lib.hid (fun (W : World) (k : Kept w W) => acheck_any a l ca W hl (hA.later k))
  have BC := Lib.hid (fun (W : World) (k : Kept w W) => acheck_any b m cb W hm (hB.later k))
  clear hA hB
  by_cases c : itE l = 0
  · rw [c] at AC
    by_cases d : itE m = 0
    · rw [d] at BC
      have f : ¬ (0 ≤ h ∧ h ≤ 292193) := fun f => er (by unfold tiE; rw [if_pos c, if_pos d, if_pos f])
      have E : tiE l m h = 1 := by unfold tiE; rw [if_pos c, if_pos d, if_neg f]
      rw [E]
      clear er E c d
      by_cases g : 0 ≤ h
      · have g2 : 292193 < h := by omega
        go_enter Try.func23, Try.ntmps23
        go_upto_region 1 with fail
        rw [← tieB3]
        generalize tieB3 w a b l.length m.length ca cb h = W at *
        obtain ⟨k0, sz, xa, xb, xw⟩ := id X.out
        go_wp2_with fail
        refine (AC.out _ k0).mono ?_
        rintro e w1 ⟨rfl, hK1⟩
        obtain ⟨k1, sz1, xa1, xb1, xw1⟩ := X.out.later hK1
        clear xa xb xw
        go_wp2_with fail
        refine (BC.out _ k1).mono ?_
        rintro e w2 ⟨rfl, hK2⟩
        obtain ⟨k2, sz2, xa2, xb2, xw2⟩ := X.out.later (hK1.trans hK2)
        clear xa1 xb1 xw1
        go_wp2
        go_ret2
        exact ⟨rfl, k2⟩
      · have g2 : h < 0 := by omega
        go_enter Try.func23, Try.ntmps23
        go_upto_region 1 with fail
        rw [← tieB3]
        generalize tieB3 w a b l.length m.length ca cb h = W at *
        obtain ⟨k0, sz, xa, xb, xw⟩ := id X.out
        go_wp2_with fail
        refine (AC.out _ k0).mono ?_
        rintro e w1 ⟨rfl, hK1⟩
        obtain ⟨k1, sz1, xa1, xb1, xw1⟩ := X.out.later hK1
        clear xa xb xw
        go_wp2_with fail
        refine (BC.out _ k1).mono ?_
        rintro e w2 ⟨rfl, hK2⟩
        obtain ⟨k2, sz2, xa2, xb2, xw2⟩ := X.out.later (hK1.trans hK2)
        clear xa1 xb1 xw1
        go_wp2
        go_ret2
        exact ⟨rfl, k2⟩
    · have E : tiE l m h = itE m := by unfold tiE; rw [if_pos c, if_neg d]
      rw [E]
      have nb : (itE m != 0) = true := by rw [bne_iff_ne]; exact d
      generalize itE m = x at *
      clear er E c d
      go_enter Try.func23, Try.ntmps23
      go_upto_region 1 with fail
      rw [← tieB3]
      generalize tieB3 w a b l.length m.length ca cb h = W at *
      obtain ⟨k0, sz, xa, xb, xw⟩ := id X.out
      go_wp2_with fail
      refine (AC.out _ k0).mono ?_
      rintro e w1 ⟨rfl, hK1⟩
      obtain ⟨k1, sz1, xa1, xb1, xw1⟩ := X.out.later hK1
      clear xa xb xw
      go_wp2_with fail
      refine (BC.out _ k1).mono ?_
      rintro e w2 ⟨rfl, hK2⟩
      go_wp2
      go_ret2
      exact ⟨rfl, k1.trans hK2⟩
  · have E : tiE l m h = itE l := by unfold tiE; rw [if_neg c]
    rw [E]
    have nb : (itE l != 0) = true := by rw [bne_iff_ne]; exact c
    generalize itE l = x at *
    clear er E c
    go_enter Try.func23, Try.ntmps23
    go_upto_region 1 with fail
    rw [← tieB3]
    generalize tieB3 w a b l.length m.length ca cb h = W at *
    obtain ⟨k0, sz, xa, xb, xw⟩ := id X.out
    go_wp2_with fail
    refine (AC.out _ k0).mono ?_
    rintro e w1 ⟨rfl, hK1⟩
    go_wp2
    go_ret2
    exact ⟨rfl, k0.trans hK1⟩
/-- The ties as a row of the call's own. -/
def TiePost (w : World) (s : List Int) (e : Ending) (w' : World) : Prop :=
  ∃ g, e = .returned (.tuple #[.slice (some ⟨g, 0, none⟩) s.length s.length, .int .i64 0]) ∧ w.heap.size ≤ g ∧ Own w' g s ∧ Kept w w'
set_option maxRecDepth 100000 in
set_option maxHeartbeats 8000000 in
theorem tie_yes (a b : Option Addr) (l m : List Mv) (ca cb : Nat) (h : Int) (w : World) (hA : JArg eP w a l) (hB : JArg eP w b m) (ok : TiOk l m h) :
    Calls Try.prog 23 #[.slice a l.length ca, .slice b m.length cb, .int .i64 h] w (TiePost w (tieL l m h)) := by
  have l40 : l.length ≤ 40 := ok.oa.len
  have m40 : m.length ≤ 40 := ok.ob.len
  have h0 := ok.h0
  have h1 := ok.h1
  have X := Lib.hid (B3.new w a b l.length m.length ca cb h)
  have AC := Lib.hid (fun (W : World) (k : Kept w W) => acheck_any a l ca W (by unfold maxLen; omega) (hA.later k))
  have BC := Lib.hid (fun (W : World) (k : Kept w W) => acheck_any b m cb W (by unfold maxLen; omega) (hB.later k))
  rw [itE_iff.2 ok.oa] at AC
  rw [itE_iff.2 ok.ob] at BC
  have AD := Lib.hid (fun (W : World) (k : Kept w W) => byDay_any a l ca W l40 (hA.later k))
  have BD := Lib.hid (fun (W : World) (k : Kept w W) => byDay_any b m cb W m40 (hB.later k))
  have P1 := Lib.hid (fun (W : World) (k : Kept w W) (bi i j : Nat) (Y : TieBx W w.heap.size bi (w.heap.size + 1) (w.heap.size + 2) a b l.length m.length ca cb i h) (hi : i < l.length) (hj : j < m.length) =>
    tie1_any i j Y (hA.later k) (hB.later k) hi hj (fun x hx => ⟨(ok.oa.it x hx).1, (ok.oa.it x hx).2.1⟩) (fun x hx => ⟨(ok.ob.it x hx).1, (ok.ob.it x hx).2.1⟩))
  have LA := Lib.hid (srtN_len l)
  have LB := Lib.hid (srtN_len m)
  have LT := Lib.hid (fun (k : Nat) (hk : k < (srtN l).length) => srtN_lt l (List.getElem_mem hk))
  have S0 := Lib.hid (TieSt.start l m h)
  have TL := Lib.hid (tieL_len l m h)
  clear hA hB ok
  go_enter Try.func23, Try.ntmps23
  go_upto_region 1 with fail
  rw [← tieB3]
  generalize tieB3 w a b l.length m.length ca cb h = W at *
  obtain ⟨k0, sz, xa, xb, xw⟩ := id X.out
  go_wp2_with fail
  refine (AC.out _ k0).mono ?_
  rintro e w1 ⟨rfl, hK1⟩
  obtain ⟨k1, sz1, xa1, xb1, xw1⟩ := X.out.later hK1
  clear xa xb xw k0 sz
  go_wp2_with fail
  refine (BC.out _ k1).mono ?_
  rintro e w2 ⟨rfl, hK2⟩
  have X2 := Lib.hid (X.out.later (hK1.trans hK2))
  obtain ⟨k2, sz2, xa2, xb2, xw2⟩ := id X2.out
  clear xa1 xb1 xw1 AC BC X hK1 hK2 k1 sz1
  have mk := make_ints l.length (by omega) w2
  go_upto_region 10 with fail
  have hO := Own.made (w := w2) (n := l.length) (t := 3) rfl
  have kM := (Kept.refl w2).alloc (.cells (zs l.length) 3)
  rw [tab_zero] at hO
  have X3 := Lib.hid (X2.out.later kM)
  generalize hgt : w2.heap.size = gt at *
  have HGT := Lib.hid hgt
  have gl := hO.lt
  clear mk hgt xa2 xb2 xw2
  generalize w2.alloc (.cells (zs l.length) 3) = w3 at *
  obtain ⟨k3, sz3, xa3, xb3, xw3⟩ := id X3.out
  go_wp2_with fail
  refine (BD.out _ k3).mono ?_
  rintro e w4 ⟨go, rfl, hgo, hOo, hK4⟩
  have X4 := Lib.hid (X3.out.later hK4)
  have hO4 := hO.later hK4
  have gol := hOo.lt
  obtain ⟨k4, sz4, xa4, xb4, xw4⟩ := id X4.out
  have k24 := kM.trans hK4
  clear xa3 xb3 xw3 BD hO X3 hK4 kM k3 sz3
  go_wp2_with fail
  refine (AD.out _ k4).mono ?_
  rintro e w5 ⟨ga, rfl, hga, hOa, hK5⟩
  have hO5 := hO4.later hK5
  have hOo5 := hOo.later hK5
  have k25 := k24.trans hK5
  have ne1 : gt ≠ go := by omega
  have ne2 : gt ≠ ga := by omega
  have ne3 : go ≠ ga := by omega
  have gb : w2.heap.size ≤ gt := by have := HGT.out; omega
  have gob : w2.heap.size ≤ go := by omega
  rw [LA.out, LB.out]
  clear xa4 xb4 xw4 AD hO4 hOo X4 hK5 k24 k4 sz4 hgo hga
  go_wp2
  go_loopw [11, 39] (fun v i wr => ∃ (k : Nat) (O : List Nat) (T : Nat → Int), k ≤ l.length ∧ i = .int .i64 k ∧ v = .slice (some ⟨go, 0, none⟩) O.length m.length ∧ Hid (TieSt l m h k O T) ∧ Own wr gt (tab l.length T) ∧ Own wr go (nI O) ∧ Own wr ga (nI (srtN l)) ∧ Kept w2 wr) (fun _ i _ => l.length - (intOf i).toNat)
  case atStart => exact ⟨0, srtN m, fun _ => 0, Nat.zero_le _, rfl, by rw [LB.out], S0, hO5, hOo5, hOa, k25⟩
  case round =>
    clear hO5 hOo5 hOa k25 S0
    obtain ⟨k, O, T, hk, rfl, rfl, HS, hT, hOp, hAr, hKr⟩ := hrel
    by_cases hlt : k < l.length
    · have hla : k < (srtN l).length := by rw [LA.out]; exact hlt
      have ca0 := hAr.cell k (by rw [nI_len]; exact hla)
      rw [nI_get] at ca0
      have ilt := LT.out k hla
      have SY := Lib.hid (fun f => HS.out.yes hla f)
      have SN := Lib.hid (fun f => HS.out.no hla f)
      have O40 : O.length ≤ m.length := HS.out.len
      have OL := Lib.hid HS.out.lt
      generalize (srtN l)[k] = i at *
      have kA := (Kept.refl wr).alloc (.cells #[.int .i64 (i : Int)] 3)
      have cbx : (wr.alloc (.cells #[.int .i64 (i : Int)] 3)).cell? ⟨wr.heap.size, 0, none⟩ = some (.int .i64 (i : Int)) := by simp
      have lbx : wr.heap.size < (wr.alloc (.cells #[.int .i64 (i : Int)] 3)).heap.size := by simp
      have xr := X2.out.later (hKr.trans kA)
      have Y := Lib.hid (show TieBx (wr.alloc (.cells #[.int .i64 (i : Int)] 3)) w.heap.size wr.heap.size (w.heap.size + 1) (w.heap.size + 2) a b l.length m.length ca cb i h from
        ⟨by have := xr.sz; omega, lbx, by have := xr.sz; omega, by have := xr.sz; omega, xr.xa, cbx, xr.xb, xr.xw⟩)
      have IF := Lib.hid (ifT_any (some ⟨go, 0, none⟩) O m.length (tieF l m h i) w.heap.size wr.heap.size (w.heap.size + 1) (w.heap.size + 2) (wr.alloc (.cells #[.int .i64 (i : Int)] 3)) (by omega) (own_argT (hOp.later kA))
        (fun V j hKV hj => P1.out V (xr.k.trans hKV) wr.heap.size i j (Y.out.later hKV) ilt (OL.out j hj)))
      have HT := Lib.hid (hT.later kA)
      have HOp := Lib.hid (hOp.later kA)
      have HAr := Lib.hid (hAr.later kA)
      have HKr := Lib.hid (hKr.trans kA)
      have k1 : (k : Int) < ((srtN l).length : Int) := by omega
      have bne1 : wr.heap.size ≠ gt := by have := hT.lt; omega
      have bne2 : wr.heap.size ≠ go := by have := hOp.lt; omega
      clear hT hOp hAr hKr kA xr Y
      go_upto_region 14 with fail
      generalize wr.alloc (.cells #[.int .i64 (i : Int)] 3) = wa at *
      generalize wr.heap.size = bi at *
      go_wp2_with fail
      refine IF.out.mono ?_
      rintro e w6 ⟨rfl, hK6⟩
      have hT := HT.out.later hK6
      have hOp := HOp.out.later hK6
      have hAr := HAr.out.later hK6
      have hKr := HKr.out.trans hK6
      have cb6 : w6.cell? ⟨bi, 0, none⟩ = some (.int .i64 (i : Int)) := (hK6.rd.1 _ _ lbx).trans cbx
      have t0 := hT.cell i (by rw [tab_len]; exact ilt)
      have t1 := hT.free i (by rw [tab_len]; exact ilt)
      have i1 : (i : Int) < (l.length : Int) := by omega
      clear IF HT HOp HAr HKr cbx hK6
      by_cases f : O.findIdx (tieF l m h i) < O.length
      · have ef : fiT (tieF l m h i) O = (O.findIdx (tieF l m h i) : Int) := by unfold fiT; rw [if_pos f]
        have SY2 := Lib.hid (SY.out f)
        rw [ef]
        generalize O.findIdx (tieF l m h i) = x at *
        have o0 := hOp.cell x (by rw [nI_len]; exact f)
        rw [nI_get] at o0
        have hT2 := hT.drew.set i ((O[x] : Nat) : Int) (by rw [tab_len]; exact ilt)
        rw [tab_set] at hT2
        have HT2 := Lib.hid hT2
        have HO2 := Lib.hid (hOp.drew.other (r := gt) (i := i) (v := .int .i64 ((O[x] : Nat) : Int)) ne1)
        have HA2 := Lib.hid (hAr.drew.other (r := gt) (i := i) (v := .int .i64 ((O[x] : Nat) : Int)) ne2)
        have HK2 := Lib.hid (hKr.drew.setAt gb (i := i) (.int .i64 ((O[x] : Nat) : Int)))
        generalize O[x] = y at *
        have x1 : (x : Int) < (O.length : Int) := by omega
        have x2 : ¬ ((x : Int) < 0) := by omega
        have x3 : IntKind.i64.wrap ((x : Int) + 1) = (x : Int) + 1 := IntWalk.i64_in _ (by omega)
        clear hT hOp hAr hKr hT2 SY SN HS ef
        go_upto_region 18 with fail
        go_region
        all_goals
          go_wp2_with fail
          refine (show Calls _ _ _ _ _ from by
            have := erase_any go m.length x (nI O) _ w2 HO2.out gob HK2.out (by rw [nI_len]; exact f) (by rw [nI_len]; exact O40) (by omega)
            rw [nI_len] at this
            exact this).mono ?_
          rintro e w8 ⟨rfl, hO8, hK8, hoth, _, _⟩
          rw [nI_erase] at hO8 ⊢
          rw [nI_len]
          have hT8 := hoth gt _ ne1 HT2.out
          have hA8 := hoth ga _ (fun e => ne3 e.symm) HA2.out
          clear hoth
          go_wp2
          go_roundw
          case rel => exact ⟨k + 1, _, _, by omega, by go_num, rfl, SY2, hT8, hO8, hA8, hK8⟩
          case measure => simp [intOf]; omega
      · have ef : fiT (tieF l m h i) O = -1 := by unfold fiT; rw [if_neg f]
        have SN2 := Lib.hid (SN.out f)
        rw [ef]
        have hT2 := hT.set i (-1) (by rw [tab_len]; exact ilt)
        rw [tab_set] at hT2
        have HT2 := Lib.hid hT2
        have HO2 := Lib.hid (hOp.other (r := gt) (i := i) (v := .int .i64 (-1)) ne1)
        have HA2 := Lib.hid (hAr.other (r := gt) (i := i) (v := .int .i64 (-1)) ne2)
        have HK2 := Lib.hid (hKr.setAt gb (i := i) (.int .i64 (-1)))
        clear hT hOp hAr hKr hT2 SY SN HS ef f
        go_wp2
        go_roundw
        case rel => exact ⟨k + 1, O, _, by omega, by go_num, rfl, SN2, HT2.out, HO2.out, HA2.out, HK2.out⟩
        case measure => simp [intOf]; omega
    · obtain rfl : k = l.length := by omega
      have ed : tab l.length T = tieL l m h := TieSt.done (by rw [LA.out]; exact HS.out)
      rw [ed] at hT
      have HT := Lib.hid hT
      have k1 : ¬ ((l.length : Int) < (l.length : Int)) := by omega
      have gbw : w.heap.size ≤ gt := by have := X2.out.sz; omega
      have hKw := X2.out.k.trans hKr
      clear hlt hOp hAr HS hT
      go_wp2
      go_ret2
      exact ⟨gt, by rw [TL.out]; rfl, gbw, HT.out, hKw⟩
end Go.Proofs.Ytdgiljndoeldcaa
