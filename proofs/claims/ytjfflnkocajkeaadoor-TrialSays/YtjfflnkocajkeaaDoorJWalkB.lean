/-
  What the reference's Sums holds: a map from codes to sums of amounts. No condition but those that each theorem names.
-/
import Derived.Test.YtjfflnkocajkeaaDoorJWalkA
namespace Go.Proofs.YtjfflnkocajkeaaDoor
open Go.RowKit Go.Maps Go.WideMaps
set_option linter.unusedVariables false

abbrev litI (n : Int) : DataW Unit := .lit (.int .i64 n)
/-- The map behind so many lines, the last one first. -/
def nmD : List Pr → DataW Unit
  | [] => .map []
  | x :: r => (nmD r).put (keyL x.1) (litI (codeS x.1 r + x.2))
theorem nmD_map : ∀ l : List Pr, IsMap (nmD l)
  | [] => isMap_empty
  | x :: r => (nmD_map r).put _ _
theorem nmD_at (s : ByteArray) : ∀ l : List Pr, (nmD l).atKey (keyL s) (litI 0) = litI (codeS s l)
  | [] => rfl
  | x :: r => by
    rw [nmD, codeS]
    by_cases h : x.1 = s
    · subst h
      rw [atKey_put_same (nmD_map r) (keyL_is _), if_pos (isB_iff.2 rfl), Int.add_comm]
    · rw [atKey_put_other (fun e => h (keyL_inj e).symm), nmD_at s r, if_neg (fun e => h (isB_iff.1 e)), Int.zero_add]
/-- The map in memory. -/
structure NumM (w : World) (b n : Nat) (l : List Pr) : Prop where
  own : w.ownsMap Tryd.prog 9 (plainElem (H := Unit) Tryd.prog 3) b n (nmD l)
theorem NumM.made (w : World) : NumM (w.alloc (.map #[] 0)) w.heap.size 0 [] := ⟨World.ownsMap_made _ _ _ _⟩
theorem NumM.later {w w' : World} {b n : Nat} {l : List Pr} (h : NumM w b n l) (k : Kept w w') : NumM w' b n l := ⟨h.own.kept k.grownBy (by simp)⟩
theorem zeroIntM (w : World) : (zeroValue 3).run Tryd.prog w = .ok (.int .i64 0) w := by kernel_rfl
theorem NumM.look {w : World} {b n : Nat} {l : List Pr} (h : NumM w b n l) {s : ByteArray} (hs : s.size ≤ maxLen) :
    (Instr.lookup 67 (.map (some b)) (.string s) false).run Tryd.prog w = .ok (.int .i64 (codeS s l)) w := by
  obtain ⟨v, ps, hr, hv⟩ := h.own.lookup keyedStr Tryd.underlying67 (zeroIntM w) (plainElem_int Tryd.underlying3 (by decide)) (keyOf_string_mk Tryd.underlying9 hs)
  rw [show Lit.string s.data.toList = keyL s from rfl, nmD_at] at hv
  obtain ⟨c, rfl, hc, _⟩ := plainElem_int_inv Tryd.underlying3 hv
  have : c = codeS s l := by
    have := congrArg Prod.fst hc
    simpa using this.symm
  rw [hr, this]
/-- One amount more. -/
theorem put_num {w : World} {ops : Array Oper} {rest : List Oper} {o : Oper} {a : Act} {Q : Exit → Act → World → Prop} (hg : o.guard = none) (m x v : Operand) (hop : o.op = Op.mapUpdate 67 m x v)
    {b n : Nat} {l : List Pr} {y : Pr} (hm : a.eval m = .map (some b)) (h : NumM w b n l) (hn : n < 1000) (hx : a.eval x = .string y.1) (hv : a.eval v = .int .i64 (codeS y.1 l + y.2)) (hs : y.1.size ≤ maxLen) (hw : -9223372036854775808 ≤ codeS y.1 l + y.2 ∧ codeS y.1 l + y.2 ≤ 9223372036854775807)
    (hK : ∀ w', NumM w' b (n + 1) (y :: l) → w.grownBy w' (some b) → wpList Tryd.prog ops Q rest (a.put o.dst undef) w') : wpList Tryd.prog ops Q (o :: rest) a w := by
  refine wpList_mapUpdate_own w hg m x v 67 hop 9 3 keyedStr Tryd.underlying67 _ b n _ hm h.own (by unfold maxLen; omega) _ _ _ hx hv (keyOf_string_mk Tryd.underlying9 hs) _ [] (plainElem_int Tryd.underlying3 (by
    simp [Lit.wf, IntKind.min, IntKind.max, IntKind.signed, IntKind.bits]; omega)) ?_
  intro w' h1 h2
  exact hK w' ⟨h1⟩ h2
theorem balS_snoc {c : ByteArray} {d : Int} {l : List Et} {k : Nat} (h : k < l.length) : balS c d (l.take (k + 1)) = balS c d (l.take k) + if (l[k]).day ≤ d then codeS c (l[k]).lns else 0 := by
  unfold balS
  rw [ens_take h, List.filter_append, allS_append]
  by_cases e : (l[k]).day ≤ d
  · rw [if_pos e, List.filter_cons, decide_eq_true e]; simp [allS]
  · rw [if_neg e, List.filter_cons, decide_eq_false e]; simp [allS]
theorem bal_take {b : Bk} (g : Good b) (c : ByteArray) (d : Int) (k : Nat) : -720000000000000 ≤ balS c d (b.ens.take k) ∧ balS c d (b.ens.take k) ≤ 720000000000000 := by
  have h := allS_bd (c := c) (l := (b.ens.take k).filter fun e => decide (e.day ≤ d)) fun x hx => (g.each x (List.mem_of_mem_take (List.mem_filter.1 hx).1)).bd
  have hl : ((b.ens.take k).filter fun e => decide (e.day ≤ d)).length ≤ 60 := Nat.le_trans (List.length_filter_le _ _) (Nat.le_trans (by rw [List.length_take]; omega) g.many)
  unfold balS
  omega
theorem ok_day {acs : List Pr} {x : Et} (h : OkE acs x) : 0 ≤ x.day := by
  have := (enE_ok h.1).1
  unfold hdE at this
  split at this
  · split at this <;> omega
  · omega
/-- A map from codes to balances. -/
def SumPost (w : World) (d : Int) (l : List Et) (e : Ending) (w' : World) : Prop := ∃ bm n h, e = .returned (.map (some bm)) ∧ NumM w' bm n h ∧ (∀ s, codeS s h = balS s d l) ∧ Kept w w'
set_option maxRecDepth 100000 in
set_option maxHeartbeats 8000000 in
theorem rsums_any (q : BkA) (b : Bk) (d : Int) (w : World) (hM : BkM w q b) (gd : Good b) :
    Calls Tryd.prog 27 #[bkV q b, .int .i64 0, .int .i64 d] w (SumPost w d b.ens) := by
  have k1 := (Kept.refl w).alloc (bkO q b)
  have hB := BBx.new w q b
  have HM := Lib.hid (hM.later k1)
  have G := Lib.hid gd
  have n60 := gd.many
  have hmm := @run_makeMap Tryd.prog
  clear hM gd
  go_enter Tryd.func27, Tryd.ntmps27
  go_wp2
  have HS := Lib.hid (NumM.made (w.alloc (bkO q b)))
  have kM := Lib.hid ((Kept.refl (w.alloc (bkO q b))).alloc (.map #[] 0))
  have hb0 : (w.alloc (bkO q b)).heap.size = w.heap.size + 1 := by simp
  rw [hb0] at HS
  have K1 := Lib.hid k1
  generalize w.alloc (bkO q b) = W at *
  have hWb : W.heap.size ≤ w.heap.size + 1 := by omega
  clear k1 hB hmm hb0
  generalize W.alloc (.map #[] 0) = W2 at *
  generalize w.heap.size + 1 = bm at *
  generalize w.heap.size = bx at *
  go_loopw [16] (fun i wr => ∃ (k n : Nat) (h : List Pr), k ≤ b.ens.length ∧ i = .int .i64 k ∧ n ≤ 12 * k ∧ NumM wr bm n h ∧ Hid (∀ s, codeS s h = balS s d (b.ens.take k)) ∧ Kept W wr) (fun i _ => b.ens.length - (intOf i).toNat)
  case atStart => exact ⟨0, 0, [], Nat.zero_le _, rfl, by omega, HS.out, Lib.hid (fun s => rfl), kM.out⟩
  case round =>
    obtain ⟨k, n, h, hk, rfl, hn, hN, HH, hK⟩ := hrel
    by_cases hlt : k < b.ens.length
    · obtain ⟨p, off, hp, hR⟩ := HM.out.ens.at hlt
      obtain ⟨a, cap, c0', c1', c2', h1, h2, hL⟩ := hR.at k hlt
      have c0 := (hK.rd.1 _ _ hR.1).trans c0'
      have c1 := (hK.rd.1 _ _ hR.1).trans c1'
      have c2 := (hK.rd.1 _ _ hR.1).trans c2'
      have plt := Nat.lt_of_lt_of_le hR.1 hK.le
      clear c0' c1' c2'
      have SN := Lib.hid (fun s => balS_snoc (c := s) (d := d) hlt)
      have OKX := G.out.each _ (List.getElem_mem hlt)
      have d0 := ok_day OKX
      obtain ⟨l12, LB⟩ := OKX.bd
      have SHX := (HM.out.she _ (List.getElem_mem hlt)).2.2
      have bl : bm < wr.heap.size := hN.own.lt
      clear hR
      rw [hp] at *
      clear hp
      generalize b.ens[k] = x at *
      have LBH := Lib.hid LB
      have SHH := Lib.hid SHX
      have kE := (Kept.refl wr).alloc (.cells #[.string x.key, .int .i64 x.day, .slice a x.lns.length cap] 49)
      have HL := Lib.hid hL
      have HX := Lib.hid (EBx.new wr x.key x.day (.slice a x.lns.length cap) 49)
      have hK1 := hK.trans kE
      have hN1 := hN.later kE
      clear hL LB SHX OKX h1 h2
      go_wp2_with fail
      refine (inb_any _ _ _ _).mono ?_
      rintro e w2 ⟨rfl, rfl⟩
      generalize hw6 : wr.alloc (.cells #[.string x.key, .int .i64 x.day, .slice a x.lns.length cap] 49) = w6 at *
      generalize wr.heap.size = sz at *
      obtain ⟨x0, x1, x2, x3⟩ := HX.out
      clear c0 c1 c2 plt kE hK hN hw6
      by_cases hd : x.day ≤ d
      · have IB := Lib.hid (show inB x.day 0 d = true from (inB_iff _ _ _).2 ⟨d0, hd⟩)
        rw [IB.out]
        have NX := Lib.hid (fun s => show balS s d (b.ens.take (k + 1)) = balS s d (b.ens.take k) + codeS s x.lns by rw [SN.out, if_pos hd])
        clear hd SN IB
        go_wp2
        clear x0 x1 x2 x3
        go_loopw [28] (fun i wr => ∃ (j m : Nat) (g : List Pr), j ≤ x.lns.length ∧ i = .int .i64 j ∧ m ≤ 12 * k + j ∧ NumM wr bm m g ∧ Hid (∀ s, codeS s g = balS s d (b.ens.take k) + codeS s (x.lns.take j)) ∧ Kept W wr) (fun i _ => x.lns.length - (intOf i).toNat)
        case atStart => exact ⟨0, n, h, Nat.zero_le _, rfl, by omega, hN1, Lib.hid (fun s => by rw [HH.out]; simp [codeS]), hK1⟩
        case round =>
          obtain ⟨j, m, g, hj, rfl, hm, hNj, HG, hKj⟩ := hrel
          by_cases hlj : j < x.lns.length
          · obtain ⟨p2, off2, hp2, hR2⟩ := (HL.out.later hKj).at hlj
            have c0 := hR2.c0 j hlj
            have c1 := hR2.c1 j hlj
            have plt := hR2.lt
            have CS := Lib.hid (fun s => codeS_snoc (c := s) hlj)
            obtain ⟨y1, y2⟩ := LBH.out _ (List.getElem_mem hlj)
            have hzs := SHH.out _ (List.getElem_mem hlj)
            have bl2 : bm < wr.heap.size := hNj.own.lt
            have CB := Lib.hid (fun s => codeS_bd (c := s) (l := x.lns.take j) fun y hy => LBH.out y (List.mem_of_mem_take hy))
            clear hR2
            subst hp2
            generalize x.lns[j] = y at *
            have e1 := HG.out y.1
            obtain ⟨z1, z2⟩ := CB.out y.1
            rw [List.length_take, Nat.min_eq_left hj] at z1 z2
            obtain ⟨t1, t2⟩ := bal_take G.out y.1 d k
            have cbd : -9223372036854775808 ≤ codeS y.1 g + y.2 ∧ codeS y.1 g + y.2 ≤ 9223372036854775807 := by rw [e1]; omega
            have wr3 : IntKind.i64.wrap (codeS y.1 g + y.2) = codeS y.1 g + y.2 := IntWalk.i64_in _ (by omega)
            have CBD := Lib.hid cbd
            have NXT := Lib.hid (fun s => show codeS s (y :: g) = balS s d (b.ens.take k) + codeS s (x.lns.take (j + 1)) by rw [codeS, HG.out, CS.out]; omega)
            have kL := (Kept.refl wr).alloc (.cells #[.string y.1, .int .i64 y.2] 64)
            have hNL := hNj.later kL
            have hKL := hKj.trans kL
            have hlk := hNL.look hzs
            clear e1 z1 z2 t1 t2 cbd CS CB hNj hKj
            go_wp2_with (at_mapUpdate; refine put_num (y := y) rfl _ _ _ rfl rfl hNL (by omega) rfl rfl hzs CBD.out ?_)
            intro w4 hN4 hgr
            have hK4 : Kept W w4 := Below.grown hKL hgr hKL.size (fun q e => by cases e; omega)
            clear hNL hlk hgr hKL c0 c1 plt kL
            go_wp2
            go_roundw
            case rel => exact ⟨j + 1, m + 1, y :: g, by omega, by go_num, by omega, hN4, Lib.hid NXT.out, hK4⟩
            case measure => simp [intOf]; omega
          · obtain rfl : j = x.lns.length := by omega
            clear hlj
            go_wp2
            go_roundw
            case rel => exact ⟨k + 1, m, g, by omega, by go_num, by omega, hNj, Lib.hid (fun s => by rw [NX.out, HG.out, List.take_length]), hKj⟩
            case measure => simp [intOf]; omega
      · have IB := Lib.hid (show inB x.day 0 d = false by unfold inB; simp; omega)
        rw [IB.out]
        have NX := Lib.hid (fun s => show balS s d (b.ens.take (k + 1)) = balS s d (b.ens.take k) by rw [SN.out, if_neg hd]; omega)
        clear hd SN IB
        go_wp2
        go_roundw
        case rel => exact ⟨k + 1, n, h, by omega, by go_num, by omega, hN1, Lib.hid (fun s => by rw [NX.out, HH.out]), hK1⟩
        case measure => simp [intOf]; omega
    · obtain rfl : k = b.ens.length := by omega
      clear hlt
      have HF := Lib.hid (show ∀ s, codeS s h = balS s d b.ens by have := HH.out; rw [List.take_length] at this; exact this)
      go_wp2
      go_ret
      exact ⟨bm, n, h, rfl, hN, HF.out, K1.out.trans hK⟩
end Go.Proofs.YtjfflnkocajkeaaDoor
