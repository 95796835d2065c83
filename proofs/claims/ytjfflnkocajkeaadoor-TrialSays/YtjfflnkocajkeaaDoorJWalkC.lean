/-
  What the reference's Sums, Kinds and Trial make of a good book. No condition but those that each theorem names.
-/
import Derived.Test.YtjfflnkocajkeaaDoorJWalkB
import Derived.Maps.RangeWalk
namespace Go.Proofs.YtjfflnkocajkeaaDoor
open Go.RowKit Go.Maps Go.WideMaps
set_option linter.unusedVariables false

/-- What a code has in entries of some days. -/
def rgS (c : ByteArray) (f t : Int) (l : List Et) : Int := allS c (l.filter (inD f t))
theorem rgS_snoc {c : ByteArray} {f t : Int} {l : List Et} {k : Nat} (h : k < l.length) : rgS c f t (l.take (k + 1)) = rgS c f t (l.take k) + if inD f t l[k] = true then codeS c (l[k]).lns else 0 := by
  unfold rgS
  rw [List.take_succ_eq_append_getElem h, List.filter_append, allS_append]
  cases e : inD f t l[k] <;> simp [e, allS]
theorem rgS_take {b : Bk} (g : Good b) (c : ByteArray) (f t : Int) (k : Nat) : -720000000000000 ≤ rgS c f t (b.ens.take k) ∧ rgS c f t (b.ens.take k) ≤ 720000000000000 := by
  have h := allS_bd (c := c) (l := (b.ens.take k).filter (inD f t)) fun x hx => (g.each x (List.mem_of_mem_take (List.mem_filter.1 hx).1)).bd
  have hl : ((b.ens.take k).filter (inD f t)).length ≤ 60 := Nat.le_trans (List.length_filter_le _ _) (Nat.le_trans (by rw [List.length_take]; omega) g.many)
  unfold rgS
  omega
theorem rgS_bd {b : Bk} (g : Good b) (c : ByteArray) (f t : Int) : -720000000000000 ≤ rgS c f t b.ens ∧ rgS c f t b.ens ≤ 720000000000000 := by
  have := rgS_take g c f t b.ens.length
  rwa [List.take_length] at this
theorem rgS_bal {b : Bk} (g : Good b) (c : ByteArray) (d : Int) : rgS c 0 d b.ens = balS c d b.ens := by
  unfold rgS balS
  congr 1
  refine List.filter_congr fun x hx => ?_
  have := ok_day (g.each x hx)
  unfold inD
  simp [this]
/-- What the accounts of a kind have. -/
def kiA (k : Int) (F : ByteArray → Int) : List Pr → Int
  | [] => 0
  | a :: r => (if a.2 = k then F a.1 else 0) + kiA k F r
theorem kiA_snoc (k : Int) (F : ByteArray → Int) : ∀ (l : List Pr) (x : Pr), kiA k F (l ++ [x]) = kiA k F l + if x.2 = k then F x.1 else 0
  | [], x => by simp [kiA]
  | a :: r, x => by rw [List.cons_append, kiA, kiA, kiA_snoc k F r x]; omega
theorem kiA_bd {k : Int} {F : ByteArray → Int} (h : ∀ c, -720000000000000 ≤ F c ∧ F c ≤ 720000000000000) : ∀ l : List Pr, -720000000000000 * (l.length : Int) ≤ kiA k F l ∧ kiA k F l ≤ 720000000000000 * (l.length : Int)
  | [] => by simp [kiA]
  | a :: r => by
    have := kiA_bd (k := k) h r
    have := h a.1
    rw [kiA, List.length_cons]
    split <;> omega
theorem sumF_eq {F G : ByteArray → Int} : ∀ {l : List Pr}, (∀ a ∈ l, F a.1 = G a.1) → sumF F l = sumF G l
  | [], _ => rfl
  | a :: r, h => by rw [sumF, sumF, h a (by simp), sumF_eq fun b hb => h b (by simp [hb])]
theorem kiA_sum {k : Int} {F : ByteArray → Int} {K : ByteArray → Int} : ∀ {l : List Pr}, (∀ a ∈ l, K a.1 = a.2) → kiA k F l = sumF (fun c => if K c = k then F c else 0) l
  | [], _ => rfl
  | a :: r, h => by rw [kiA, sumF, h a (by simp), kiA_sum fun b hb => h b (by simp [hb])]
theorem kin_lines {acs : List Pr} {k : Int} (hn : (acs.map Prod.fst).Nodup) : ∀ {l : List Pr}, (∀ y ∈ l, hasB y.1 acs = true) → sumF (fun c => if kiV acs c = k then codeS c l else 0) acs = kinL acs k l
  | [], _ => sumF_none fun a _ => by simp [codeS]
  | x :: r, h => by
    have e : sumF (fun c => if kiV acs c = k then codeS c (x :: r) else 0) acs = sumF (fun c => (if isB c (x.1, if kiV acs x.1 = k then x.2 else 0) = true then (if kiV acs x.1 = k then x.2 else 0) else 0) + (if kiV acs c = k then codeS c r else 0)) acs := sumF_eq fun a _ => by
      rw [codeS]
      by_cases hb : a.1 = x.1
      · have h1 : isB a.1 x = true := isB_iff.2 hb.symm
        have h2 : isB a.1 (x.1, if kiV acs x.1 = k then x.2 else 0) = true := isB_iff.2 hb.symm
        rw [if_pos h1, if_pos h2, hb]
        split <;> omega
      · have h1 : ¬ isB a.1 x = true := fun e => hb (isB_iff.1 e).symm
        have h2 : ¬ isB a.1 (x.1, if kiV acs x.1 = k then x.2 else 0) = true := fun e => hb (show x.1 = a.1 from isB_iff.1 e).symm
        rw [if_neg h1, if_neg h2]
        simp
    rw [e, sumF_add (fun c => if isB c (x.1, if kiV acs x.1 = k then x.2 else 0) = true then (if kiV acs x.1 = k then x.2 else 0) else 0) (fun c => if kiV acs c = k then codeS c r else 0), sumF_one hn (hasB_iff.1 (h x (by simp))), kin_lines hn fun y hy => h y (by simp [hy]), kinL]
theorem kin_ens {acs : List Pr} {k : Int} (hn : (acs.map Prod.fst).Nodup) : ∀ {l : List Et}, (∀ e ∈ l, ∀ y ∈ e.lns, hasB y.1 acs = true) → sumF (fun c => if kiV acs c = k then allS c l else 0) acs = kinE acs k l
  | [], _ => sumF_none fun a _ => by simp [allS]
  | x :: r, h => by
    have e : sumF (fun c => if kiV acs c = k then allS c (x :: r) else 0) acs = sumF (fun c => (if kiV acs c = k then codeS c x.lns else 0) + (if kiV acs c = k then allS c r else 0)) acs := sumF_eq fun a _ => by
      rw [allS]
      split <;> omega
    rw [e, sumF_add (fun c => if kiV acs c = k then codeS c x.lns else 0) (fun c => if kiV acs c = k then allS c r else 0), kin_lines hn (h x (by simp)), kin_ens hn fun y hy => h y (by simp [hy]), kinE]
theorem kiA_kin {b : Bk} (g : Good b) (k f t : Int) : kiA k (fun c => rgS c f t b.ens) b.acs = kinS b.acs k f t b.ens := by
  have hn := inc_nodup (acE_inc g.acs).1
  rw [kiA_sum (K := kiV b.acs) (kiV_at hn)]
  exact kin_ens hn fun e he => (g.each e (List.mem_filter.1 he).1).2
/-! The map's keys. -/
theorem nmD_has (s : ByteArray) : ∀ l : List Pr, Maps.has (nmD l) (keyL s) = hasB s l
  | [] => rfl
  | x :: r => by
    rw [nmD]
    by_cases h : x.1 = s
    · rw [h, has_put_same (nmD_map r) (keyL_is _)]
      unfold hasB; simp [h]
    · rw [has_put_other (fun e => h (keyL_inj e).symm), nmD_has s r]
      unfold hasB
      rw [List.any_cons]
      have : (x.1.toList == s.toList) = false := by
        rw [beq_eq_false_iff_ne]
        exact fun e => h (ba_ext e)
      rw [this]; rfl
theorem codeS_no {s : ByteArray} : ∀ {l : List Pr}, hasB s l = false → codeS s l = 0
  | [], _ => rfl
  | x :: r, h => by
    have h1 : ¬ isB s x = true := fun e => by
      have : hasB s (x :: r) = true := hasB_iff.2 ⟨x, by simp, isB_iff.1 e⟩
      rw [this] at h; exact absurd h (by decide)
    have h2 : hasB s r = false := Bool.eq_false_iff.2 fun e => by
      obtain ⟨y, hy, e⟩ := hasB_iff.1 e
      have : hasB s (x :: r) = true := hasB_iff.2 ⟨y, by simp [hy], e⟩
      rw [this] at h; exact absurd h (by decide)
    rw [codeS, if_neg h1, codeS_no h2]; rfl
theorem keyStr_inv {key : Value} {kl : Lit} (h : keyOf Tryd.prog 9 key = some kl) : ∃ s : ByteArray, key = .string s ∧ kl = keyL s := by
  have hk := Tryd.underlying9
  cases key <;> simp [keyOf, hk, mapKey] at h
  obtain ⟨_, rfl⟩ := h
  exact ⟨_, rfl, rfl⟩
theorem keyL_same (a b : ByteArray) : (keyL a).sameKey (keyL b) = true ↔ a = b := by
  unfold keyL Lit.sameKey
  constructor
  · intro h
    have h2 : a.data.toList = b.data.toList := by simpa using h
    exact keyL_inj (by unfold keyL; rw [h2])
  · rintro rfl; simp
/-! Sums of what is above zero and of what is below, with one code more. -/
theorem up_eq {F G : ByteArray → Int} : ∀ {l : List Pr}, (∀ a ∈ l, F a.1 = G a.1) → upS F l = upS G l ∧ dnS F l = dnS G l
  | [], _ => ⟨rfl, rfl⟩
  | a :: r, h => by
    obtain ⟨h1, h2⟩ := up_eq (F := F) (G := G) (l := r) fun b hb => h b (by simp [hb])
    rw [upS, upS, dnS, dnS, h a (by simp), h1, h2]; exact ⟨rfl, rfl⟩
theorem up_step {G H : ByteArray → Int} {x : ByteArray} (h1 : H x = 0) (h2 : ∀ c, c ≠ x → H c = G c) : ∀ {l : List Pr}, (l.map Prod.fst).Nodup → (∃ a ∈ l, a.1 = x) → upS G l = upS H l + max (G x) 0 ∧ dnS G l = dnS H l + max (-(G x)) 0
  | [], _, h => by obtain ⟨a, ha, _⟩ := h; cases ha
  | a :: r, hn, h => by
    rw [List.map_cons, List.nodup_cons] at hn
    rw [upS, upS, dnS, dnS]
    by_cases e : a.1 = x
    · obtain ⟨e1, e2⟩ := up_eq (F := G) (G := H) (l := r) fun b hb => (h2 b.1 fun eb => hn.1 (List.mem_map.2 ⟨b, hb, eb.trans e.symm⟩)).symm
      rw [e1, e2, e, h1]; omega
    · obtain ⟨b, hb, eb⟩ := h
      have hr : ∃ b ∈ r, b.1 = x := by
        rcases List.mem_cons.1 hb with rfl | hb
        · exact absurd eb e
        · exact ⟨b, hb, eb⟩
      obtain ⟨e1, e2⟩ := up_step h1 h2 hn.2 hr
      rw [e1, e2, h2 a.1 e]; omega
theorem up_zero {F : ByteArray → Int} : ∀ {l : List Pr}, (∀ a ∈ l, F a.1 = 0) → upS F l = 0 ∧ dnS F l = 0
  | [], _ => ⟨rfl, rfl⟩
  | a :: r, h => by
    obtain ⟨h1, h2⟩ := up_zero (F := F) (l := r) fun b hb => h b (by simp [hb])
    rw [upS, dnS, h a (by simp), h1, h2]; exact ⟨rfl, rfl⟩
/-- What is still to come. -/
def lfF (left : Lit → Bool) (F : ByteArray → Int) (c : ByteArray) : Int := if left (keyL c) = true then F c else 0
theorem lf_start {h : List Pr} {F : ByteArray → Int} (hF : ∀ c, codeS c h = F c) (l : List Pr) : upS (lfF (Maps.has (nmD h)) F) l = upS F l ∧ dnS (lfF (Maps.has (nmD h)) F) l = dnS F l :=
  up_eq fun a _ => by
    unfold lfF
    rw [nmD_has]
    split
    · rfl
    · rename_i e
      rw [← hF, codeS_no (Bool.eq_false_iff.2 e)]
theorem lf_step {left : Lit → Bool} {F : ByteArray → Int} {x : ByteArray} {acs : List Pr} (hn : (acs.map Prod.fst).Nodup) (hx : ∃ a ∈ acs, a.1 = x) (hl : left (keyL x) = true) :
    upS (lfF left F) acs = upS (lfF (fun z => left z && !z.sameKey (keyL x)) F) acs + max (F x) 0 ∧ dnS (lfF left F) acs = dnS (lfF (fun z => left z && !z.sameKey (keyL x)) F) acs + max (-(F x)) 0 := by
  have e : lfF left F x = F x := by unfold lfF; rw [if_pos hl]
  rw [← e]
  refine up_step (G := lfF left F) (H := lfF (fun z => left z && !z.sameKey (keyL x)) F) ?_ (fun c hc => ?_) hn hx
  · unfold lfF
    rw [if_neg (by simp [(keyL_same x x).2 rfl])]
  · unfold lfF
    have : (keyL c).sameKey (keyL x) = false := Bool.eq_false_iff.2 fun e => hc ((keyL_same _ _).1 e)
    simp [this]
/-- A map from codes to what they have in some days. -/
def RgPost (w : World) (acs : List Pr) (f d : Int) (l : List Et) (e : Ending) (w' : World) : Prop := ∃ bm n h, e = .returned (.map (some bm)) ∧ NumM w' bm n h ∧ (∀ s, codeS s h = rgS s f d l) ∧ n ≤ 720 ∧ (∀ y ∈ h, hasB y.1 acs = true) ∧ Kept w w'
set_option maxRecDepth 100000 in
set_option maxHeartbeats 8000000 in
theorem rsums_rg (q : BkA) (b : Bk) (f d : Int) (w : World) (hM : BkM w q b) (gd : Good b) :
    Calls Tryd.prog 27 #[bkV q b, .int .i64 f, .int .i64 d] w (RgPost w b.acs f d b.ens) := by
  have k1 := (Kept.refl w).alloc (bkO q b)
  have hB := BBx.new w q b
  have HM := Lib.hid (hM.later k1)
  have G := Lib.hid gd
  have n60 := gd.many
  have hmm := @run_makeMap Tryd.prog
  clear hM gd
  go_enter Tryd.func27, Tryd.ntmps27
  go_wp2
  have HS := Lib.hid (NumM.made (w.alloc (bkO q b)))
  have kM := Lib.hid ((Kept.refl (w.alloc (bkO q b))).alloc (.map #[] 0))
  have hb0 : (w.alloc (bkO q b)).heap.size = w.heap.size + 1 := by simp
  rw [hb0] at HS
  have K1 := Lib.hid k1
  generalize w.alloc (bkO q b) = W at *
  have hWb : W.heap.size ≤ w.heap.size + 1 := by omega
  clear k1 hB hmm hb0
  generalize W.alloc (.map #[] 0) = W2 at *
  generalize w.heap.size + 1 = bm at *
  generalize w.heap.size = bx at *
  go_loopw [16] (fun i wr => ∃ (k n : Nat) (h : List Pr), k ≤ b.ens.length ∧ i = .int .i64 k ∧ n ≤ 12 * k ∧ NumM wr bm n h ∧ Hid (∀ y ∈ h, hasB y.1 b.acs = true) ∧ Hid (∀ s, codeS s h = rgS s f d (b.ens.take k)) ∧ Kept W wr) (fun i _ => b.ens.length - (intOf i).toNat)
  case atStart => exact ⟨0, 0, [], Nat.zero_le _, rfl, by omega, HS.out, Lib.hid (fun y hy => by cases hy), Lib.hid (fun s => rfl), kM.out⟩
  case round =>
    obtain ⟨k, n, h, hk, rfl, hn, hN, HA, HH, hK⟩ := hrel
    by_cases hlt : k < b.ens.length
    · obtain ⟨p, off, hp, hR⟩ := HM.out.ens.at hlt
      obtain ⟨a, cap, c0', c1', c2', h1, h2, hL⟩ := hR.at k hlt
      have c0 := (hK.rd.1 _ _ hR.1).trans c0'
      have c1 := (hK.rd.1 _ _ hR.1).trans c1'
      have c2 := (hK.rd.1 _ _ hR.1).trans c2'
      have plt := Nat.lt_of_lt_of_le hR.1 hK.le
      clear c0' c1' c2'
      have SN := Lib.hid (fun s => rgS_snoc (c := s) (f := f) (t := d) hlt)
      have OKX := G.out.each _ (List.getElem_mem hlt)
      have OA := Lib.hid OKX.2
      obtain ⟨l12, LB⟩ := OKX.bd
      have SHX := (HM.out.she _ (List.getElem_mem hlt)).2.2
      have bl : bm < wr.heap.size := hN.own.lt
      clear hR
      rw [hp] at *
      clear hp
      generalize b.ens[k] = x at *
      have LBH := Lib.hid LB
      have SHH := Lib.hid SHX
      have kE := (Kept.refl wr).alloc (.cells #[.string x.key, .int .i64 x.day, .slice a x.lns.length cap] 49)
      have HL := Lib.hid hL
      have HX := Lib.hid (EBx.new wr x.key x.day (.slice a x.lns.length cap) 49)
      have hK1 := hK.trans kE
      have hN1 := hN.later kE
      clear hL LB SHX OKX h1 h2
      go_wp2_with fail
      refine (inb_any _ _ _ _).mono ?_
      rintro e w2 ⟨rfl, rfl⟩
      generalize hw6 : wr.alloc (.cells #[.string x.key, .int .i64 x.day, .slice a x.lns.length cap] 49) = w6 at *
      generalize wr.heap.size = sz at *
      obtain ⟨x0, x1, x2, x3⟩ := HX.out
      clear c0 c1 c2 plt kE hK hN hw6
      by_cases hd : inD f d x = true
      · have IB := Lib.hid (show inB x.day f d = true from hd)
        rw [IB.out]
        have NX := Lib.hid (fun s => show rgS s f d (b.ens.take (k + 1)) = rgS s f d (b.ens.take k) + codeS s x.lns by rw [SN.out, if_pos hd])
        clear hd SN IB
        go_wp2
        clear x0 x1 x2 x3
        go_loopw [28] (fun i wr => ∃ (j m : Nat) (g : List Pr), j ≤ x.lns.length ∧ i = .int .i64 j ∧ m ≤ 12 * k + j ∧ NumM wr bm m g ∧ Hid (∀ y ∈ g, hasB y.1 b.acs = true) ∧ Hid (∀ s, codeS s g = rgS s f d (b.ens.take k) + codeS s (x.lns.take j)) ∧ Kept W wr) (fun i _ => x.lns.length - (intOf i).toNat)
        case atStart => exact ⟨0, n, h, Nat.zero_le _, rfl, by omega, hN1, HA, Lib.hid (fun s => by rw [HH.out]; simp [codeS]), hK1⟩
        case round =>
          obtain ⟨j, m, g, hj, rfl, hm, hNj, HA2, HG, hKj⟩ := hrel
          by_cases hlj : j < x.lns.length
          · obtain ⟨p2, off2, hp2, hR2⟩ := (HL.out.later hKj).at hlj
            have c0 := hR2.c0 j hlj
            have c1 := hR2.c1 j hlj
            have plt := hR2.lt
            have CS := Lib.hid (fun s => codeS_snoc (c := s) hlj)
            obtain ⟨y1, y2⟩ := LBH.out _ (List.getElem_mem hlj)
            have HA3 := Lib.hid (show ∀ y ∈ x.lns[j] :: g, hasB y.1 b.acs = true from fun y hy => by
              rcases List.mem_cons.1 hy with rfl | hy
              · exact OA.out _ (List.getElem_mem hlj)
              · exact HA2.out y hy)
            have hzs := SHH.out _ (List.getElem_mem hlj)
            have bl2 : bm < wr.heap.size := hNj.own.lt
            have CB := Lib.hid (fun s => codeS_bd (c := s) (l := x.lns.take j) fun y hy => LBH.out y (List.mem_of_mem_take hy))
            clear hR2
            subst hp2
            generalize x.lns[j] = y at *
            have e1 := HG.out y.1
            obtain ⟨z1, z2⟩ := CB.out y.1
            rw [List.length_take, Nat.min_eq_left hj] at z1 z2
            obtain ⟨t1, t2⟩ := rgS_take G.out y.1 f d k
            have cbd : -9223372036854775808 ≤ codeS y.1 g + y.2 ∧ codeS y.1 g + y.2 ≤ 9223372036854775807 := by rw [e1]; omega
            have wr3 : IntKind.i64.wrap (codeS y.1 g + y.2) = codeS y.1 g + y.2 := IntWalk.i64_in _ (by omega)
            have CBD := Lib.hid cbd
            have NXT := Lib.hid (fun s => show codeS s (y :: g) = rgS s f d (b.ens.take k) + codeS s (x.lns.take (j + 1)) by rw [codeS, HG.out, CS.out]; omega)
            have kL := (Kept.refl wr).alloc (.cells #[.string y.1, .int .i64 y.2] 64)
            have hNL := hNj.later kL
            have hKL := hKj.trans kL
            have hlk := hNL.look hzs
            clear e1 z1 z2 t1 t2 cbd CS CB hNj hKj
            go_wp2_with (at_mapUpdate; refine put_num (y := y) rfl _ _ _ rfl rfl hNL (by omega) rfl rfl hzs CBD.out ?_)
            intro w4 hN4 hgr
            have hK4 : Kept W w4 := Below.grown hKL hgr hKL.size (fun q e => by cases e; omega)
            clear hNL hlk hgr hKL c0 c1 plt kL
            go_wp2
            go_roundw
            case rel => exact ⟨j + 1, m + 1, y :: g, by omega, by go_num, by omega, hN4, HA3, Lib.hid NXT.out, hK4⟩
            case measure => simp [intOf]; omega
          · obtain rfl : j = x.lns.length := by omega
            clear hlj
            go_wp2
            go_roundw
            case rel => exact ⟨k + 1, m, g, by omega, by go_num, by omega, hNj, HA2, Lib.hid (fun s => by rw [NX.out, HG.out, List.take_length]), hKj⟩
            case measure => simp [intOf]; omega
      · have IB := Lib.hid (show inB x.day f d = false from Bool.eq_false_iff.2 hd)
        rw [IB.out]
        have NX := Lib.hid (fun s => show rgS s f d (b.ens.take (k + 1)) = rgS s f d (b.ens.take k) by rw [SN.out, if_neg hd]; omega)
        clear hd SN IB
        go_wp2
        go_roundw
        case rel => exact ⟨k + 1, n, h, by omega, by go_num, by omega, hN1, HA, Lib.hid (fun s => by rw [NX.out, HH.out]), hK1⟩
        case measure => simp [intOf]; omega
    · obtain rfl : k = b.ens.length := by omega
      clear hlt
      have HF := Lib.hid (show ∀ s, codeS s h = rgS s f d b.ens by have := HH.out; rw [List.take_length] at this; exact this)
      go_wp2
      go_ret
      exact ⟨bm, n, h, rfl, hN, HF.out, by omega, HA.out, K1.out.trans hK⟩
end Go.Proofs.YtjfflnkocajkeaaDoor
