import Derived.Test.YtbaahnafmfjpaaaGreatDoorJWalkA
import Derived.Test.YtbaahnafmfjpaaaGreatDoorHWalkE
import Derived.Test.YtbaahnafmfjpaaaGreatDoorMgCWalkE
import Derived.Test.YtbaahnafmfjpaaaGreatDoorMgXWalkC
/-
  What the reference's Sums holds: a map from codes to sums of amounts. No condition but those that each theorem names.
-/
namespace Go.Proofs.YtbaahnafmfjpaaaGreatDoor
open Go.RowKit Go.Maps Go.WideMaps
set_option linter.unusedVariables false

abbrev litI (n : Int) : DataW Unit := .lit (.int .i64 n)
/-- The map behind so many lines, the last one first. -/
def nmD : List Pr → DataW Unit
  | [] => .map []
  | x :: r => (nmD r).put (keyL x.1) (litI (codeS x.1 r + x.2))
theorem nmD_map : ∀ l : List Pr, IsMap (nmD l)
  | [] => isMap_empty
  | x :: r => (nmD_map r).put _ _
theorem nmD_at (s : ByteArray) : ∀ l : List Pr, (nmD l).atKey (keyL s) (litI 0) = litI (codeS s l)
  | [] => rfl
  | x :: r => by
    rw [nmD, codeS]
    by_cases h : x.1 = s
    · subst h
      rw [atKey_put_same (nmD_map r) (keyL_is _), if_pos (isB_iff.2 rfl), Int.add_comm]
    · rw [atKey_put_other (fun e => h (keyL_inj e).symm), nmD_at s r, if_neg (fun e => h (isB_iff.1 e)), Int.zero_add]
/-- The map in memory. -/
structure NumM (w : World) (b n : Nat) (l : List Pr) : Prop where
  own : w.ownsMap Tryz.prog 9 (plainElem (H := Unit) Tryz.prog 3) b n (nmD l)
theorem NumM.made (w : World) : NumM (w.alloc (.map #[] 0)) w.heap.size 0 [] := ⟨World.ownsMap_made _ _ _ _⟩
theorem NumM.later {w w' : World} {b n : Nat} {l : List Pr} (h : NumM w b n l) (k : Kept w w') : NumM w' b n l := ⟨h.own.kept k.grownBy (by simp)⟩
theorem zeroIntM (w : World) : (zeroValue 3).run Tryz.prog w = .ok (.int .i64 0) w := by kernel_rfl
theorem NumM.look {w : World} {b n : Nat} {l : List Pr} (h : NumM w b n l) {s : ByteArray} (hs : s.size ≤ maxLen) :
    (Instr.lookup 51 (.map (some b)) (.string s) false).run Tryz.prog w = .ok (.int .i64 (codeS s l)) w := by
  obtain ⟨v, ps, hr, hv⟩ := h.own.lookup keyedStr Tryz.underlying51 (zeroIntM w) (plainElem_int Tryz.underlying3 (by decide)) (keyOf_string_mk Tryz.underlying9 hs)
  rw [show Lit.string s.data.toList = keyL s from rfl, nmD_at] at hv
  obtain ⟨c, rfl, hc, _⟩ := plainElem_int_inv Tryz.underlying3 hv
  have : c = codeS s l := by
    have := congrArg Prod.fst hc
    simpa using this.symm
  rw [hr, this]
/-- One amount more. -/
theorem put_num {w : World} {ops : Array Oper} {rest : List Oper} {o : Oper} {a : Act} {Q : Exit → Act → World → Prop} (hg : o.guard = none) (m x v : Operand) (hop : o.op = Op.mapUpdate 51 m x v)
    {b n : Nat} {l : List Pr} {y : Pr} (hm : a.eval m = .map (some b)) (h : NumM w b n l) (hn : n < 1000) (hx : a.eval x = .string y.1) (hv : a.eval v = .int .i64 (codeS y.1 l + y.2)) (hs : y.1.size ≤ maxLen) (hw : -9223372036854775808 ≤ codeS y.1 l + y.2 ∧ codeS y.1 l + y.2 ≤ 9223372036854775807)
    (hK : ∀ w', NumM w' b (n + 1) (y :: l) → w.grownBy w' (some b) → wpList Tryz.prog ops Q rest (a.put o.dst undef) w') : wpList Tryz.prog ops Q (o :: rest) a w := by
  refine wpList_mapUpdate_own w hg m x v 51 hop 9 3 keyedStr Tryz.underlying51 _ b n _ hm h.own (by unfold maxLen; omega) _ _ _ hx hv (keyOf_string_mk Tryz.underlying9 hs) _ [] (plainElem_int Tryz.underlying3 (by
    simp [Lit.wf, IntKind.min, IntKind.max, IntKind.signed, IntKind.bits]; omega)) ?_
  intro w' h1 h2
  exact hK w' ⟨h1⟩ h2
theorem balS_snoc {c : ByteArray} {d : Int} {l : List Et} {k : Nat} (h : k < l.length) : balS c d (l.take (k + 1)) = balS c d (l.take k) + if (l[k]).day ≤ d then codeS c (l[k]).lns else 0 := by
  unfold balS
  rw [ens_take h, List.filter_append, allS_append]
  by_cases e : (l[k]).day ≤ d
  · rw [if_pos e, List.filter_cons, decide_eq_true e]; simp [allS]
  · rw [if_neg e, List.filter_cons, decide_eq_false e]; simp [allS]
theorem bal_take {b : Bk} (g : Good b) (c : ByteArray) (d : Int) (k : Nat) : -720000000000000 ≤ balS c d (b.ens.take k) ∧ balS c d (b.ens.take k) ≤ 720000000000000 := by
  have h := allS_bd (c := c) (l := (b.ens.take k).filter fun e => decide (e.day ≤ d)) fun x hx => (g.each x (List.mem_of_mem_take (List.mem_filter.1 hx).1)).bd
  have hl : ((b.ens.take k).filter fun e => decide (e.day ≤ d)).length ≤ 60 := Nat.le_trans (List.length_filter_le _ _) (Nat.le_trans (by rw [List.length_take]; omega) g.many)
  unfold balS
  omega
theorem ok_day {acs : List Pr} {x : Et} (h : OkE acs x) : 0 ≤ x.day := by
  have := (enE_ok h.1).1
  unfold hdE at this
  split at this
  · split at this <;> omega
  · omega
/-- A map from codes to balances. -/
def SumPost (w : World) (d : Int) (l : List Et) (e : Ending) (w' : World) : Prop := ∃ bm n h, e = .returned (.map (some bm)) ∧ NumM w' bm n h ∧ (∀ s, codeS s h = balS s d l) ∧ Kept w w'
set_option maxRecDepth 100000 in
set_option maxHeartbeats 8000000 in
theorem rsums_any (q : BkA) (b : Bk) (d : Int) (w : World) (hM : BkM w q b) (gd : Good b) :
    Calls Tryz.prog 21 #[bkV q b, .int .i64 0, .int .i64 d] w (SumPost w d b.ens) := by
  have k1 := (Kept.refl w).alloc (bkO q b)
  have hB := BBx.new w q b
  have HM := Lib.hid (hM.later k1)
  have G := Lib.hid gd
  have n60 := gd.many
  have hmm := @run_makeMap Tryz.prog
  clear hM gd
  go_enter Tryz.func21, Tryz.ntmps21
  go_wp2
  have HS := Lib.hid (NumM.made (w.alloc (bkO q b)))
  have kM := Lib.hid ((Kept.refl (w.alloc (bkO q b))).alloc (.map #[] 0))
  have hb0 : (w.alloc (bkO q b)).heap.size = w.heap.size + 1 := by simp
  rw [hb0] at HS
  have K1 := Lib.hid k1
  generalize w.alloc (bkO q b) = W at *
  have hWb : W.heap.size ≤ w.heap.size + 1 := by omega
  clear k1 hB hmm hb0
  generalize W.alloc (.map #[] 0) = W2 at *
  generalize w.heap.size + 1 = bm at *
  generalize w.heap.size = bx at *
  go_loopw [16] (fun i wr => ∃ (k n : Nat) (h : List Pr), k ≤ b.ens.length ∧ i = .int .i64 k ∧ n ≤ 12 * k ∧ NumM wr bm n h ∧ Hid (∀ s, codeS s h = balS s d (b.ens.take k)) ∧ Kept W wr) (fun i _ => b.ens.length - (intOf i).toNat)
  case atStart => exact ⟨0, 0, [], Nat.zero_le _, rfl, by omega, HS.out, Lib.hid (fun s => rfl), kM.out⟩
  case round =>
    obtain ⟨k, n, h, hk, rfl, hn, hN, HH, hK⟩ := hrel
    by_cases hlt : k < b.ens.length
    · obtain ⟨p, off, hp, hR⟩ := HM.out.ens.at hlt
      obtain ⟨a, cap, c0', c1', c2', h1, h2, hL⟩ := hR.at k hlt
      have c0 := (hK.rd.1 _ _ hR.1).trans c0'
      have c1 := (hK.rd.1 _ _ hR.1).trans c1'
      have c2 := (hK.rd.1 _ _ hR.1).trans c2'
      have plt := Nat.lt_of_lt_of_le hR.1 hK.le
      clear c0' c1' c2'
      have SN := Lib.hid (fun s => balS_snoc (c := s) (d := d) hlt)
      have OKX := G.out.each _ (List.getElem_mem hlt)
      have d0 := ok_day OKX
      obtain ⟨l12, LB⟩ := OKX.bd
      have SHX := (HM.out.she _ (List.getElem_mem hlt)).2.2
      have bl : bm < wr.heap.size := hN.own.lt
      clear hR
      rw [hp] at *
      clear hp
      generalize b.ens[k] = x at *
      have LBH := Lib.hid LB
      have SHH := Lib.hid SHX
      have kE := (Kept.refl wr).alloc (.cells #[.string x.key, .int .i64 x.day, .slice a x.lns.length cap] 38)
      have HL := Lib.hid hL
      have HX := Lib.hid (EBx.new wr x.key x.day (.slice a x.lns.length cap) 38)
      have hK1 := hK.trans kE
      have hN1 := hN.later kE
      clear hL LB SHX OKX h1 h2
      go_wp2_with fail
      refine (inb_any _ _ _ _).mono ?_
      rintro e w2 ⟨rfl, rfl⟩
      generalize hw6 : wr.alloc (.cells #[.string x.key, .int .i64 x.day, .slice a x.lns.length cap] 38) = w6 at *
      generalize wr.heap.size = sz at *
      obtain ⟨x0, x1, x2, x3⟩ := HX.out
      clear c0 c1 c2 plt kE hK hN hw6
      by_cases hd : x.day ≤ d
      · have IB := Lib.hid (show inB x.day 0 d = true from (inB_iff _ _ _).2 ⟨d0, hd⟩)
        rw [IB.out]
        have NX := Lib.hid (fun s => show balS s d (b.ens.take (k + 1)) = balS s d (b.ens.take k) + codeS s x.lns by rw [SN.out, if_pos hd])
        clear hd SN IB
        go_wp2
        clear x0 x1 x2 x3
        go_loopw [28] (fun i wr => ∃ (j m : Nat) (g : List Pr), j ≤ x.lns.length ∧ i = .int .i64 j ∧ m ≤ 12 * k + j ∧ NumM wr bm m g ∧ Hid (∀ s, codeS s g = balS s d (b.ens.take k) + codeS s (x.lns.take j)) ∧ Kept W wr) (fun i _ => x.lns.length - (intOf i).toNat)
        case atStart => exact ⟨0, n, h, Nat.zero_le _, rfl, by omega, hN1, Lib.hid (fun s => by rw [HH.out]; simp [codeS]), hK1⟩
        case round =>
          obtain ⟨j, m, g, hj, rfl, hm, hNj, HG, hKj⟩ := hrel
          by_cases hlj : j < x.lns.length
          · obtain ⟨p2, off2, hp2, hR2⟩ := (HL.out.later hKj).at hlj
            have c0 := hR2.c0 j hlj
            have c1 := hR2.c1 j hlj
            have plt := hR2.lt
            have CS := Lib.hid (fun s => codeS_snoc (c := s) hlj)
            obtain ⟨y1, y2⟩ := LBH.out _ (List.getElem_mem hlj)
            have hzs := SHH.out _ (List.getElem_mem hlj)
            have bl2 : bm < wr.heap.size := hNj.own.lt
            have CB := Lib.hid (fun s => codeS_bd (c := s) (l := x.lns.take j) fun y hy => LBH.out y (List.mem_of_mem_take hy))
            clear hR2
            subst hp2
            generalize x.lns[j] = y at *
            have e1 := HG.out y.1
            obtain ⟨z1, z2⟩ := CB.out y.1
            rw [List.length_take, Nat.min_eq_left hj] at z1 z2
            obtain ⟨t1, t2⟩ := bal_take G.out y.1 d k
            have cbd : -9223372036854775808 ≤ codeS y.1 g + y.2 ∧ codeS y.1 g + y.2 ≤ 9223372036854775807 := by rw [e1]; omega
            have wr3 : IntKind.i64.wrap (codeS y.1 g + y.2) = codeS y.1 g + y.2 := IntWalk.i64_in _ (by omega)
            have CBD := Lib.hid cbd
            have NXT := Lib.hid (fun s => show codeS s (y :: g) = balS s d (b.ens.take k) + codeS s (x.lns.take (j + 1)) by rw [codeS, HG.out, CS.out]; omega)
            have kL := (Kept.refl wr).alloc (.cells #[.string y.1, .int .i64 y.2] 48)
            have hNL := hNj.later kL
            have hKL := hKj.trans kL
            have hlk := hNL.look hzs
            clear e1 z1 z2 t1 t2 cbd CS CB hNj hKj
            go_wp2_with (at_mapUpdate; refine put_num (y := y) rfl _ _ _ rfl rfl hNL (by omega) rfl rfl hzs CBD.out ?_)
            intro w4 hN4 hgr
            have hK4 : Kept W w4 := Below.grown hKL hgr hKL.size (fun q e => by cases e; omega)
            clear hNL hlk hgr hKL c0 c1 plt kL
            go_wp2
            go_roundw
            case rel => exact ⟨j + 1, m + 1, y :: g, by omega, by go_num, by omega, hN4, Lib.hid NXT.out, hK4⟩
            case measure => simp [intOf]; omega
          · obtain rfl : j = x.lns.length := by omega
            clear hlj
            go_wp2
            go_roundw
            case rel => exact ⟨k + 1, m, g, by omega, by go_num, by omega, hNj, Lib.hid (fun s => by rw [NX.out, HG.out, List.take_length]), hKj⟩
            case measure => simp [intOf]; omega
      · have IB := Lib.hid (show inB x.day 0 d = false by unfold inB; simp; omega)
        rw [IB.out]
        have NX := Lib.hid (fun s => show balS s d (b.ens.take (k + 1)) = balS s d (b.ens.take k) by rw [SN.out, if_neg hd]; omega)
        clear hd SN IB
        go_wp2
        go_roundw
        case rel => exact ⟨k + 1, n, h, by omega, by go_num, by omega, hN1, Lib.hid (fun s => by rw [NX.out, HH.out]), hK1⟩
        case measure => simp [intOf]; omega
    · obtain rfl : k = b.ens.length := by omega
      clear hlt
      have HF := Lib.hid (show ∀ s, codeS s h = balS s d b.ens by have := HH.out; rw [List.take_length] at this; exact this)
      go_wp2
      go_ret
      exact ⟨bm, n, h, rfl, hN, HF.out, K1.out.trans hK⟩
end Go.Proofs.YtbaahnafmfjpaaaGreatDoor

/-
  The reference's Close, at every input, to a good book. No condition but those that each theorem names.
-/
namespace Go.Proofs.YtbaahnafmfjpaaaGreatDoor
open Go.RowKit Go.Maps Go.WideMaps
set_option linter.unusedVariables false

theorem inB_dy (d : Int) : inB d 0 292193 = dyB d := rfl
set_option maxRecDepth 100000 in
set_option maxHeartbeats 8000000 in
theorem rclose_day (q : BkA) (b : Bk) (k : ByteArray) (d : Int) (c : ByteArray) (w : World) (hM : BkM w q b) (hk : k.size ≤ maxLen) (hc : c.size ≤ maxLen) (gd : Good b) (dy : dyB d = false) :
    Calls Tryz.prog 8 #[bkV q b, .string k, .int .i64 d, .string c] w (BkNo w 1) := by
  have hB := (BBx.new w q b).later ((Kept.refl (w.alloc (bkO q b))).alloc noBk)
  have hR := VBk.noneAt w q b
  have hK2 := ((Kept.refl w).alloc (bkO q b)).alloc noBk
  have DY := Lib.hid (show inB d 0 292193 = false from dy)
  generalize hW : (w.alloc (bkO q b)).alloc noBk = W at *
  have HW := Lib.hid hW
  have HK := Lib.hid hK2
  have HR := Lib.hid hR
  have HB := Lib.hid hB
  have HM := Lib.hid (hM.later hK2)
  have HM0 := Lib.hid hM
  clear hW hK2 hR
  clear hM
  obtain ⟨b0, b1, b2, b3⟩ := hB
  go_enter Tryz.func8, Tryz.ntmps8
  go_wp2_with fail
  rw [HW.out]
  refine (rday_any _ _).mono ?_
  rintro e w1 ⟨rfl, rfl⟩
  rw [DY.out]
  obtain ⟨⟨r0, r1, r2, r3⟩, f0, f1, f2⟩ := HR.out.later (Kept.refl W)
  have FK := Lib.hid ((HK.out.trans ((Kept.refl W))).set3 (p := w.heap.size + 1) (by omega) (.slice none 0 0) (.slice none 0 0) (.int .i64 0))
  go_wp2
  exact bodyPost_ret (v := .tuple #[.agg #[.slice none 0 0, .slice none 0 0, .int .i64 0], .int .i64 1]) (by simp [results, Tryz.results8, go_sem, r1, r2, r3]) rfl ⟨rfl, FK.out⟩
set_option maxRecDepth 100000 in
set_option maxHeartbeats 8000000 in
theorem rclose_has (q : BkA) (b : Bk) (k : ByteArray) (d : Int) (c : ByteArray) (w : World) (hM : BkM w q b) (hk : k.size ≤ maxLen) (hc : c.size ≤ maxLen) (gd : Good b) (dy : dyB d = true) (hh : hasB c b.acs = false) :
    Calls Tryz.prog 8 #[bkV q b, .string k, .int .i64 d, .string c] w (BkNo w 4) := by
  have hB := (BBx.new w q b).later ((Kept.refl (w.alloc (bkO q b))).alloc noBk)
  have hR := VBk.noneAt w q b
  have hK2 := ((Kept.refl w).alloc (bkO q b)).alloc noBk
  have DY := Lib.hid (show inB d 0 292193 = true from dy)
  have HS := Lib.hid (fun V (h : BkM V q b) => rhas_any c b.acs q.aa q.ca V h.an h.acs)
  rw [hh] at HS
  generalize hW : (w.alloc (bkO q b)).alloc noBk = W at *
  have HW := Lib.hid hW
  have HK := Lib.hid hK2
  have HR := Lib.hid hR
  have HB := Lib.hid hB
  have HM := Lib.hid (hM.later hK2)
  have HM0 := Lib.hid hM
  clear hW hK2 hR
  clear hM
  obtain ⟨b0, b1, b2, b3⟩ := hB
  go_enter Tryz.func8, Tryz.ntmps8
  go_wp2_with fail
  rw [HW.out]
  refine (rday_any _ _).mono ?_
  rintro e w1 ⟨rfl, rfl⟩
  rw [DY.out]
  go_wp2_with fail
  refine (HS.out W HM.out).mono ?_
  rintro e w2 ⟨rfl, hK1⟩
  clear b0 b1 b2 b3
  obtain ⟨⟨r0, r1, r2, r3⟩, f0, f1, f2⟩ := HR.out.later hK1
  have FK := Lib.hid ((HK.out.trans (hK1)).set3 (p := w.heap.size + 1) (by omega) (.slice none 0 0) (.slice none 0 0) (.int .i64 0))
  go_wp2
  exact bodyPost_ret (v := .tuple #[.agg #[.slice none 0 0, .slice none 0 0, .int .i64 0], .int .i64 4]) (by simp [results, Tryz.results8, go_sem, r1, r2, r3]) rfl ⟨rfl, FK.out⟩
set_option maxRecDepth 100000 in
set_option maxHeartbeats 8000000 in
theorem rclose_form (q : BkA) (b : Bk) (k : ByteArray) (d : Int) (c : ByteArray) (w : World) (hM : BkM w q b) (hk : k.size ≤ maxLen) (hc : c.size ≤ maxLen) (gd : Good b) (dy : dyB d = true) (hh : hasB c b.acs = true) (kv : kiV b.acs c ≠ 2) :
    Calls Tryz.prog 8 #[bkV q b, .string k, .int .i64 d, .string c] w (BkNo w 3) := by
  have hB := (BBx.new w q b).later ((Kept.refl (w.alloc (bkO q b))).alloc noBk)
  have hR := VBk.noneAt w q b
  have hK2 := ((Kept.refl w).alloc (bkO q b)).alloc noBk
  have DY := Lib.hid (show inB d 0 292193 = true from dy)
  have HS := Lib.hid (fun V (h : BkM V q b) => rhas_any c b.acs q.aa q.ca V h.an h.acs)
  rw [hh] at HS
  have HH := Lib.hid hh
  have RS := Lib.hid (fun V (h : BkM V q b) => rsums_any q b d V h gd)
  have n24 := gd.a24
  have SB := Lib.hid (fun j => clS_bd (f := baF b d) (fun c => bal_bd gd c d) (b.acs.take j))
  have BF := Lib.hid (fun c => bal_bd gd c d)
  have KV := Lib.hid (fun a ha => kiV_at (inc_nodup (acE_inc gd.acs).1) a ha)
  have GD := Lib.hid gd
  have K2V := Lib.hid kv
  clear kv
  generalize hW : (w.alloc (bkO q b)).alloc noBk = W at *
  have HW := Lib.hid hW
  have HK := Lib.hid hK2
  have HR := Lib.hid hR
  have HB := Lib.hid hB
  have HM := Lib.hid (hM.later hK2)
  have HM0 := Lib.hid hM
  clear hW hK2 hR
  clear hM dy hh gd
  obtain ⟨b0, b1, b2, b3⟩ := hB
  go_enter Tryz.func8, Tryz.ntmps8
  go_wp2_with fail
  rw [HW.out]
  refine (rday_any _ _).mono ?_
  rintro e w1 ⟨rfl, rfl⟩
  rw [DY.out]
  go_wp2_with fail
  refine (HS.out W HM.out).mono ?_
  rintro e w2 ⟨rfl, hK1⟩
  have K1 := Lib.hid hK1
  clear b0 b1 b2 b3 hK1
  obtain ⟨b0, b1, b2, b3⟩ := HB.out.later K1.out
  go_wp2_with fail
  refine (RS.out w2 (HM.out.later K1.out)).mono ?_
  rintro e w3 ⟨bm, n, hm, rfl, hN, hS, hK3⟩
  have K3 := Lib.hid (K1.out.trans hK3)
  have HN := Lib.hid hN
  have HSm := Lib.hid hS
  clear b0 b1 b2 b3 hK3 hN hS
  obtain ⟨b0, b1, b2, b3⟩ := HB.out.later K3.out
  have hO0 := WBx.new w3 k d (.slice none 0 0) 38 w3.heap.size rfl
  have kO := Lib.hid ((Kept.refl w3).alloc (.cells #[.string k, .int .i64 d, .slice none 0 0] 38))
  have w3s : w3.heap.size < (w3.alloc (.cells #[.string k, .int .i64 d, .slice none 0 0] 38)).heap.size := hO0.box.lt
  have rbo : w.heap.size + 1 < w3.heap.size := (HR.out.later K3.out).box.lt
  go_wp2
  generalize w3.alloc (.cells #[.string k, .int .i64 d, .slice none 0 0] 38) = W4 at *
  clear b0 b1 b2 b3
  generalize hbo : w3.heap.size = bo at *
  have hbo2 : w3.heap.size ≤ bo := by omega
  clear hbo
  have HL0 := Lib.hid (PGr.nil 48 (bo + 1) W4)
  go_loopw [12, 36] (fun s i wr => ∃ (j : Nat) (v : Value), j ≤ b.acs.length ∧ i = .int .i64 j ∧ s = .int .i64 (-(sumL (clL (baF b d) (b.acs.take j)))) ∧ WBx wr bo k d v ∧ PGr 48 (bo + 1) wr v (clL (baF b d) (b.acs.take j)) ∧ Hid (∀ y ∈ b.acs.take j, y.1 ≠ c) ∧ Kept w3 wr) (fun _ i _ => b.acs.length - (intOf i).toNat)
  case atStart => exact ⟨0, _, Nat.zero_le _, rfl, rfl, hO0, HL0.out, Lib.hid (by simp), kO.out⟩
  case round =>
    clear hO0
    obtain ⟨j, v, hj, rfl, rfl, hO, hG, HA, hK⟩ := hrel
    obtain ⟨av, cv, rfl, _, _⟩ := hG.form
    have KW := Lib.hid (K3.out.trans hK)
    by_cases hlt : j < b.acs.length
    · obtain ⟨p, off, hp, hR2⟩ := (HM.out.later KW.out).acs.at hlt
      have c0 := hR2.c0 j hlt
      have c1 := hR2.c1 j hlt
      have plt := hR2.lt
      have SN := Lib.hid (clL_snoc (f := baF b d) hlt)
      have KX := Lib.hid (KV.out _ (List.getElem_mem hlt))
      have hys := HM.out.sha _ (List.getElem_mem hlt)
      have TA := Lib.hid (List.take_succ_eq_append_getElem hlt)
      obtain ⟨s1, s2⟩ := SB.out j
      have ll := clL_len (baF b d) (b.acs.take j)
      rw [List.length_take, Nat.min_eq_left hj] at s1 s2 ll
      obtain ⟨z1, z2⟩ := BF.out (b.acs[j]).1
      have HLT := Lib.hid hlt
      clear hR2
      rw [hp] at *
      clear hp
      generalize b.acs[j] = x at *
      have kA := (Kept.refl wr).alloc (.cells #[.string x.1, .int .i64 x.2] 54)
      have hlk := ((HN.out.later hK).later kA).look hys
      rw [HSm.out x.1] at hlk
      have HO1 := Lib.hid (hO.later kA)
      have HG1 := Lib.hid (hG.later kA)
      have HK1 := Lib.hid (hK.trans kA)
      obtain ⟨⟨y0, y1, y2, y3⟩, g0, g1, g2⟩ := id hO
      clear kA
      by_cases hb : x.1 = c
      · have hb2 : (x.1.toList == c.toList) = true := by rw [hb]; simp
        have n2 : (x.2 != 2) = true := by rw [bne_iff_ne, ← KX.out, hb]; exact K2V.out
        clear hb SN hlk y0 y1 y2 y3 g0 g1 g2
        have KF := Lib.hid (K3.out.trans HK1.out)
        obtain ⟨⟨r0, r1, r2, r3⟩, f0, f1, f2⟩ := HR.out.later KF.out
        have FK := Lib.hid ((HK.out.trans (KF.out)).set3 (p := w.heap.size + 1) (by omega) (.slice none 0 0) (.slice none 0 0) (.int .i64 0))
        go_wp2
        exact bodyPost_ret (v := .tuple #[.agg #[.slice none 0 0, .slice none 0 0, .int .i64 0], .int .i64 3]) (by simp [results, Tryz.results8, go_sem, r1, r2, r3]) rfl ⟨rfl, FK.out⟩
      · have hb2 : (x.1.toList == c.toList) = false := by rw [beq_eq_false_iff_ne]; exact fun e => hb (ba_ext e)
        have NA := Lib.hid (show Hid (∀ y ∈ b.acs.take (j + 1), y.1 ≠ c) from Lib.hid (fun y hy => by
          rw [TA.out, List.mem_append, List.mem_singleton] at hy
          rcases hy with hy | rfl
          · exact HA.out y hy
          · exact hb))
        clear hb
        by_cases g3 : 2 < x.2
        · by_cases f0 : balS x.1 d b.ens = 0
          · have SK := Lib.hid (show clL (baF b d) (b.acs.take (j + 1)) = clL (baF b d) (b.acs.take j) by rw [SN.out]; unfold clO; rw [if_neg (fun z => z.2 f0)]; simp)
            rw [f0] at hlk
            clear SN z1 z2 f0
            go_wp2
            go_roundw
            case rel => exact ⟨j + 1, _, HLT.out, by go_num, by rw [SK.out], HO1.out, by rw [SK.out]; exact HG1.out, NA.out, HK1.out⟩
            case measure => have := HLT.out; simp [intOf]; omega
          · have f1 : (balS x.1 d b.ens == 0) = false := by simpa using f0
            have f2 : (balS x.1 d b.ens != 0) = true := by simpa using f0
            have SK := Lib.hid (show clL (baF b d) (b.acs.take (j + 1)) = clL (baF b d) (b.acs.take j) ++ [(x.1, -(balS x.1 d b.ens))] by rw [SN.out]; unfold clO; rw [if_pos ⟨by omega, f0⟩]; rfl)
            have SK2 := Lib.hid (show -(sumL (clL (baF b d) (b.acs.take (j + 1)))) = -(sumL (clL (baF b d) (b.acs.take j))) + balS x.1 d b.ens by rw [SK.out, sumL_append]; simp [sumL]; omega)
            have w1' : IntKind.i64.wrap (-(balS x.1 d b.ens)) = -(balS x.1 d b.ens) := IntWalk.i64_in _ (by omega)
            have w2' : IntKind.i64.wrap (-(sumL (clL (baF b d) (b.acs.take j))) + balS x.1 d b.ens) = -(sumL (clL (baF b d) (b.acs.take j))) + balS x.1 d b.ens := IntWalk.i64_in _ (by omega)
            have HXB := Lib.hid (PBx.new wr x 54)
            have HLK := Lib.hid (fun V (k : Kept w3 V) => (HN.out.later k).look hys)
            have HSX := Lib.hid (HSm.out x.1)
            clear SN f0
            generalize balS x.1 d b.ens = bal at *
            generalize clL (baF b d) (b.acs.take j) = m at *
            generalize sumL m = sm at *
            have kb := (Kept.refl (wr.alloc (.cells #[.string x.1, .int .i64 x.2] 54))).alloc (.cells #[.string x.1, .int .i64 (-bal)] 48)
            have hO1 := HO1.out.later kb
            have hG1 := HG1.out.later kb
            have hK1 := HK1.out.trans kb
            have hX1 := HXB.out.later kb
            have olt := hO.box.lt
            have N0 := Lib.hid (show ((wr.alloc (.cells #[.string x.1, .int .i64 x.2] 54)).alloc (.cells #[.string x.1, .int .i64 (-bal)] 48)).cell? ⟨wr.heap.size + 1, 0, none⟩ = some (.string x.1) by simp)
            have N1 := Lib.hid (show ((wr.alloc (.cells #[.string x.1, .int .i64 x.2] 54)).alloc (.cells #[.string x.1, .int .i64 (-bal)] 48)).cell? ⟨wr.heap.size + 1, 1, none⟩ = some (.int .i64 (-bal)) by simp)
            go_wp2_with (at_builtin; refine app_pr 48 34 pairLine Tryz.underlying34 rfl _ _ rfl (z := (x.1, -bal)) rfl rfl hG1 N0.out N1.out (by omega) (by simp; omega) ?_)
            intro v' w6 hG5 hgr
            have hK5 : Kept w3 w6 := hG1.below (by omega) hK1 hgr
            have hO5 := hO1.grown hgr (fun e => by have := (hG1.own.lt bo e.symm).1; omega)
            have hne : some wr.heap.size ≠ (Value.slice av m.length cv).ownBlock := fun e => by have := (hG.own.lt _ e.symm).2; omega
            have a0 := hgr.cell hX1.c0 hne
            have a1 := hgr.cell hX1.c1 hne
            have alt := Nat.lt_of_lt_of_le hX1.lt hgr.size
            have nbo : wr.heap.size ≠ bo := by omega
            obtain ⟨a5, c5, rfl, _, _⟩ := hG5.form
            rw [show (m ++ [(x.1, -bal)]).length = m.length + 1 by simp] at hG5 ⊢
            have KS := Lib.hid (hK5.setAt (i := 2) hbo2 (.slice a5 (m.length + 1) c5))
            have hlk2 := HLK.out _ KS.out
            rw [HSX.out] at hlk2
            have R1 := Lib.hid (hO5.set2' (u := .slice a5 (m.length + 1) c5))
            have R2 := Lib.hid (hG5.other' (r := bo) (i := 2) (u := .slice a5 (m.length + 1) c5) (Nat.lt_succ_self _))
            obtain ⟨⟨q0, q1, q2, q3⟩, q4, q5, q6⟩ := id hO5
            clear hG hG1 hK hK1 hO hO1 y0 y1 y2 y3 g0 g1 g2 c0 c1 plt hgr N0 N1 hlk hX1 kb hO5 hG5 hK5 hne
            go_wp2
            go_roundw
            case rel => exact ⟨j + 1, _, HLT.out, by go_num, by rw [SK2.out], R1.out, by rw [SK.out]; exact R2.out, NA.out, KS.out⟩
            case measure => have := HLT.out; simp [intOf]; omega
        · have SK := Lib.hid (show clL (baF b d) (b.acs.take (j + 1)) = clL (baF b d) (b.acs.take j) by rw [SN.out]; unfold clO; rw [if_neg (fun z => by omega)]; simp)
          clear SN hlk
          go_wp2
          go_roundw
          case rel => exact ⟨j + 1, _, HLT.out, by go_num, by rw [SK.out], HO1.out, by rw [SK.out]; exact HG1.out, NA.out, HK1.out⟩
          case measure => have := HLT.out; simp [intOf]; omega
    · obtain rfl : j = b.acs.length := by omega
      obtain ⟨y, hy, e⟩ := hasB_iff.1 HH.out
      exact absurd e (HA.out y (by rw [List.take_length]; exact hy))
end Go.Proofs.YtbaahnafmfjpaaaGreatDoor
