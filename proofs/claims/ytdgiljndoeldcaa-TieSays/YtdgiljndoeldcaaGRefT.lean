/-
  What the reference's Tie returns. No condition but those that each theorem names.
-/
import Derived.Test.YtdgiljndoeldcaaGRefS
import Derived.Test.YtdgiljndoeldcaaGTieL
namespace Go.Proofs.Ytdgiljndoeldcaa
open Go.RowKit Go.WideShapes Go.Sort
set_option linter.unusedVariables false

theorem nIJ (s : List Nat) : nJ s = nI s := rfl
set_option maxHeartbeats 1000000 in
theorem gabs_any (n : Int) (w : World) (h0 : -1000000 ≤ n) (h1 : n ≤ 1000000) : Calls Try.prog 52 #[.int .i64 n] w fun e w' => e = .returned (.int .i64 (max n (-n))) ∧ w = w' := by
  have u1 : IntKind.i64.wrap (-n) = -n := IntWalk.i64_in _ (by omega)
  go_enter Try.func52, Try.ntmps52
  go_wp2
  go_ret
  exact ⟨rfl, rfl⟩
/-- slices.Delete of one number of a row that has room. -/
def GerPost (w : World) (v : Value) (a : Option Addr) (c : Nat) (B : Nat) (l : List Int) (e : Ending) (w' : World) : Prop :=
  e = .returned (.slice a l.length c) ∧ QRow eI B w' (.slice a l.length c) l ∧ w.grownBy w' v.ownBlock
set_option maxHeartbeats 1000000 in
theorem gerase_any (a : Option Addr) (c i B : Nat) (l : List Int) (w : World) (hQ : QRow eI B w (.slice a l.length c) l) (hi : i < l.length) :
    Calls Try.prog 51 #[.slice a l.length c, .int .i64 (i : Int), .int .i64 ((i : Int) + 1)] w (GerPost w (.slice a l.length c) a c B (l.eraseIdx i)) := by
  obtain ⟨a', c', e, h1, h2, h3⟩ := id hQ.is
  obtain ⟨rfl, rfl⟩ : a = a' ∧ c = c' := by simpa using e
  rcases h3 with ⟨_, hc0⟩ | ⟨p, off, rfl, hBp, hm⟩
  · omega
  have k1 : eI.k = 1 := rfl
  have hH : Holds (Value.int .i64) w p off l.toArray := by
    intro j hj
    have hj' : j < l.length := by simpa using hj
    refine ⟨?_, ?_⟩
    · rw [hm.row.i j hj', getElem!_pos _ j hj]; rfl
    · exact (hm.room j (by rw [k1]; omega)).2
  have hd := Any.slices_Delete_int Try.laysNm223 p off c i (i + 1) l w hH h1 h2 (by omega) (by omega)
  rw [show ((i + 1 : Nat) : Int) = (i : Int) + 1 by omega] at hd
  refine (show Calls Try.prog 51 _ _ _ from hd).mono ?_
  rintro e w' ⟨rfl, n, rfl⟩
  have el : (l.eraseIdx i).length = l.length - 1 := by rw [List.length_eraseIdx_of_lt hi]
  have ee : l.take i ++ l.drop (i + 1) ++ List.replicate (i + 1 - i) (0 : Int) = l.eraseIdx i ++ [0] := by
    rw [List.eraseIdx_eq_take_drop_succ, show i + 1 - i = 1 by omega]; rfl
  rw [ee]
  have dl : (l.eraseIdx i ++ [(0 : Int)]).length = l.length := by rw [List.length_append, el]; simp; omega
  have hH2 := holds_putRow (Value.int .i64) (Sort.ahead w n) p off l.toArray (l.eraseIdx i ++ [0]).toArray (holds_ahead _ _ _ _ _ _ hH) (by rw [List.size_toArray, List.size_toArray]; exact dl)
  have ce : ∀ o, (¬ (off ≤ o ∧ o < off + l.length)) → (putRow (Value.int .i64) (Sort.ahead w n) p off (l.eraseIdx i ++ [0]).toArray).cell? ⟨p, o, none⟩ = w.cell? ⟨p, o, none⟩ := fun o ho => by
    rw [cell?_putRow_other _ _ _ _ _ _ (.inr (by rw [List.size_toArray, dl]; simp only; omega))]; rfl
  refine ⟨by rw [el, show l.length - (i + 1 - i) = l.length - 1 by omega], ⟨_, c, rfl, by omega, h2, .inr ⟨p, off, rfl, hBp, ⟨⟨by rw [size_putRow]; exact hm.row.lt, fun j u hj => ?_⟩, fun j hj => ?_⟩⟩⟩, ?_⟩
  · rw [catI, List.getElem?_map] at hj
    have hj' : j < (l.eraseIdx i).length := by
      by_cases c : j < (l.eraseIdx i).length
      · exact c
      · rw [List.getElem?_eq_none (by omega)] at hj; cases hj
    have hl : j < (l.eraseIdx i ++ [(0 : Int)]).length := by rw [List.length_append]; omega
    have := (hH2 j (by rw [List.size_toArray]; exact hl)).1
    rw [getElem!_pos _ j (by rw [List.size_toArray]; exact hl), List.getElem_toArray, List.getElem_append_left hj'] at this
    rw [List.getElem?_eq_getElem hj'] at hj
    rw [this]
    simpa using hj
  · rw [frozen?_putRow]
    refine ⟨?_, (hm.room j hj).2⟩
    by_cases c : j < l.length
    · have := (hH2 j (by rw [List.size_toArray, dl]; exact c)).1
      rw [this]; rfl
    · rw [ce (off + j) (by omega)]
      exact (hm.room j hj).1
  · refine ⟨rfl, rfl, rfl, by rw [size_putRow]; exact Nat.le_refl _, ?_⟩
    intro k hk hne
    show (w.heap.modify p _)[k]? = _
    have : p ≠ k := fun e => hne (by simp [Value.ownBlock, e])
    rw [Array.getElem?_modify, if_neg this]
/-- On the way. -/
structure RefSt (a b : List Mv) (h : Int) (k : Nat) (O : List Nat) (T : Nat → Int) : Prop where
  eq : ∀ i, i < a.length → tieR (tieF a b h) ((srtN a).drop k) O T i = tieX a b h i
  nd : O.Nodup
  lt : ∀ j ∈ O, j < b.length
  new : ∀ i ∈ (srtN a).drop k, T i = -1
theorem tieR_ext {ok : Nat → Nat → Bool} : ∀ {A O : List Nat} {T U : Nat → Int} {i : Nat}, i ∈ A → tieR ok A O T i = tieR ok A O U i
  | [], O, T, U, i, h => by cases h
  | x :: A, O, T, U, i, h => by
    by_cases hA : i ∈ A
    · cases e : O.find? (ok x) with
      | some y => rw [tieR_some e, tieR_some e, tieR_ext hA]
      | none => rw [tieR_none e, tieR_none e, tieR_ext hA]
    · have hx : i = x := by
        rcases List.mem_cons.1 h with e | e
        · exact e
        · exact absurd e hA
      subst hx
      cases e : O.find? (ok i) with
      | some y => rw [tieR_some e, tieR_some e, tieR_out hA, tieR_out hA, up_same, up_same]
      | none => rw [tieR_none e, tieR_none e, tieR_out hA, tieR_out hA, up_same, up_same]
theorem RefSt.start (a b : List Mv) (h : Int) : RefSt a b h 0 (srtN b) (fun _ => -1) :=
  ⟨fun i hi => tieR_ext ((srtN_perm a).symm.subset (List.mem_range.2 hi)), srtN_nodup b, fun j hj => srtN_lt b hj, fun _ _ => rfl⟩
theorem RefSt.yes {a b : List Mv} {h : Int} {k : Nat} {O : List Nat} {T : Nat → Int} (s : RefSt a b h k O T) (hk : k < (srtN a).length) (hf : O.findIdx (tieF a b h ((srtN a)[k])) < O.length) :
    RefSt a b h (k + 1) (O.eraseIdx (O.findIdx (tieF a b h ((srtN a)[k])))) (up T ((srtN a)[k]) ((O[O.findIdx (tieF a b h ((srtN a)[k]))] : Nat) : Int)) := by
  obtain ⟨f1, f2⟩ := find_at s.nd hf
  refine ⟨fun i hi => ?_, s.nd.sublist (List.eraseIdx_sublist ..), fun j hj => s.lt j ((List.eraseIdx_sublist ..).subset hj), fun i hi => ?_⟩
  · have e := s.eq i hi
    rwa [List.drop_eq_getElem_cons hk, tieR_some f1, f2] at e
  · have nd := (srtN_nodup a).sublist (List.drop_sublist k _)
    rw [List.drop_eq_getElem_cons hk] at nd
    have ne : i ≠ (srtN a)[k] := fun e => (List.pairwise_cons.1 nd).1 i hi e.symm
    rw [up_ne _ _ ne]
    exact s.new i (by rw [List.drop_eq_getElem_cons hk]; exact List.mem_cons_of_mem _ hi)
theorem RefSt.no {a b : List Mv} {h : Int} {k : Nat} {O : List Nat} {T : Nat → Int} (s : RefSt a b h k O T) (hk : k < (srtN a).length) (hf : ¬ O.findIdx (tieF a b h ((srtN a)[k])) < O.length) :
    RefSt a b h (k + 1) O T := by
  have f := find_no hf
  have tm : T ((srtN a)[k]) = -1 := s.new _ (by rw [List.drop_eq_getElem_cons hk]; exact List.mem_cons_self ..)
  have ut : up T ((srtN a)[k]) (-1) = T := by
    funext q
    unfold up
    by_cases c : q = (srtN a)[k]
    · rw [if_pos c, c, tm]
    · rw [if_neg c]
  refine ⟨fun i hi => ?_, s.nd, s.lt, fun i hi => s.new i (by rw [List.drop_eq_getElem_cons hk]; exact List.mem_cons_of_mem _ hi)⟩
  have e := s.eq i hi
  rwa [List.drop_eq_getElem_cons hk, tieR_none f, ut] at e
theorem RefSt.done {a b : List Mv} {h : Int} {O : List Nat} {T : Nat → Int} (s : RefSt a b h (srtN a).length O T) : tab a.length T = tieL a b h := by
  unfold tieL
  refine tab_congr _ (fun i hi => ?_)
  have := s.eq i hi
  rw [List.drop_length] at this
  exact this
def RTiePost (w : World) (s : List Int) (e : Ending) (w' : World) : Prop :=
  ∃ g, e = .returned (.slice (some ⟨g, 0, none⟩) s.length s.length) ∧ w.heap.size ≤ g ∧ Own w' g s ∧ Kept w w'
theorem Own.grownO {w w' : World} {p : Nat} {l : List Int} {r : Option Nat} (h : Own w p l) (hg : w.grownBy w' r) (hr : r ≠ some p) : Own w' p l :=
  ⟨Nat.lt_of_lt_of_le h.lt hg.size, fun j hj => (cell_grown hg h.lt hr j).1.trans (h.cell j hj), fun j hj => (cell_grown hg h.lt hr j).2.trans (h.free j hj)⟩
set_option maxRecDepth 100000 in
set_option maxHeartbeats 16000000 in
theorem rtie_any (a b : Option Addr) (l m : List Mv) (ca cb : Nat) (h : Int) (w : World) (hA : JArg eP w a l) (hB : JArg eP w b m) (ok : TiOk l m h) :
    Calls Try.prog 24 #[.slice a l.length ca, .slice b m.length cb, .int .i64 h] w (RTiePost w (tieL l m h)) := by
  have l40 : l.length ≤ 40 := ok.oa.len
  have m40 : m.length ≤ 40 := ok.ob.len
  have HA := Lib.hid hA
  have HB := Lib.hid hB
  have SA := Lib.hid (fun (W : World) (k : Kept w W) => rsorted_any a l ca W l40 (hA.later k))
  have SB := Lib.hid (fun (W : World) (k : Kept w W) => rsorted_any b m cb W m40 (hB.later k))
  have ITA := Lib.hid ok.oa.it
  have ITB := Lib.hid ok.ob.it
  have LA := Lib.hid (srtN_len l)
  have LB := Lib.hid (srtN_len m)
  have LT := Lib.hid (fun (k : Nat) (hk : k < (srtN l).length) => srtN_lt l (List.getElem_mem hk))
  have S0 := Lib.hid (RefSt.start l m h)
  have TL := Lib.hid (tieL_len l m h)
  clear hA hB ok
  have mk := make_ints l.length (by omega) w
  go_enter Try.func24, Try.ntmps24
  go_wp2
  have hO := Own.made (w := w) (n := l.length) (t := 3) rfl
  have kM := (Kept.refl w).alloc (.cells (zs l.length) 3)
  rw [tab_zero] at hO
  generalize hgt : w.heap.size = gt at *
  have gtw : w.heap.size ≤ gt := by omega
  have HGT := Lib.hid hgt
  clear mk hgt
  generalize w.alloc (.cells (zs l.length) 3) = w1 at *
  go_loopw [19] (fun i wr => ∃ k : Nat, k ≤ l.length ∧ i = .int .i64 k ∧ Own wr gt (tab l.length (mix (fun _ => -1) (fun _ => 0) k)) ∧ Kept w wr) (fun i _ => (l.length - intOf i).toNat)
  case atStart => exact ⟨0, by omega, rfl, by rw [mix_zero]; exact hO, kM⟩
  case round =>
    clear hO kM
    obtain ⟨k, hk, rfl, hOr, hKr⟩ := hrel
    by_cases hlt : k < l.length
    · have hO2 := hOr.set k (-1) (by rw [tab_len]; exact hlt)
      rw [tab_set, mix_set (fun _ => -1) (fun _ => 0) k] at hO2
      have hc := hOr.cell k (by rw [tab_len]; exact hlt)
      have hf := hOr.free k (by rw [tab_len]; exact hlt)
      have HO := Lib.hid hO2
      have i1 : (k : Int) < (l.length : Int) := by omega
      clear hO2 hOr
      go_wp2
      go_roundw
      case rel => exact ⟨k + 1, by omega, by go_num, HO.out, hKr.setAt gtw _⟩
      case measure => simp [intOf]; omega
    · obtain rfl : k = l.length := by omega
      rw [mix_end] at hOr
      have HO := Lib.hid hOr
      clear hlt hOr
      go_wp2_with fail
      refine (SB.out _ hKr).mono ?_
      rintro e w2 ⟨ab, cb2, rfl, hQb, hK2⟩
      have HO2 := Lib.hid (HO.out.later hK2)
      have hK12 := hKr.trans hK2
      have gl := HO.out.lt
      have bb : wr.heap.size ≤ w2.heap.size := hK2.size
      clear HO hK2
      go_wp2_with fail
      refine (SA.out _ hK12).mono ?_
      rintro e w3 ⟨aa, ca2, rfl, hQa, hK3⟩
      have hO3 := HO2.out.later hK3
      have hK13 := hK12.trans hK3
      have hQb3 := hQb.later hK3
      have apart : ApartQ (.slice ab (srtN m).length cb2) (.slice aa (srtN l).length ca2) := fun k e1 e2 => by
        have := (hQb.lt k e1).2
        have := (hQa.lt k e2).1
        omega
      clear SA SB HO2 hK3 hQb hK12
      have AP := Lib.hid (fun (n1 n2 : Nat) => show ApartQ (.slice ab n1 cb2) (.slice aa n2 ca2) from fun k e1 e2 => apart k (by cases ab <;> exact e1) (by cases aa <;> exact e2))
      have GB := Lib.hid (fun (n1 : Nat) (k : Nat) (e : (Value.slice ab n1 cb2).ownBlock = some k) => show wr.heap.size ≤ k from (hQb3.lt k (by cases ab <;> exact e)).1)
      have wrw : w.heap.size ≤ wr.heap.size := hKr.size
      rw [LA.out] at hQa ⊢
      rw [LB.out] at hQb3 ⊢
      clear apart hKr
      generalize wr.heap.size = sB at *
      go_wp2
      go_loopw [9, 31] (fun v i wr => ∃ (k : Nat) (O : List Nat) (T : Nat → Int), k ≤ l.length ∧ i = .int .i64 k ∧ v = .slice ab O.length cb2 ∧ Hid (RefSt l m h k O T) ∧ Own wr gt (tab l.length T) ∧ QRow eI sB wr (.slice ab O.length cb2) (nJ O) ∧ QRow eI w2.heap.size wr (.slice aa l.length ca2) (nJ (srtN l)) ∧ Kept w wr) (fun _ i _ => l.length - (intOf i).toNat)
      case atStart => exact ⟨0, srtN m, fun _ => -1, Nat.zero_le _, rfl, by rw [LB.out], S0, hO3, by rw [LB.out]; exact hQb3, hQa, hK13⟩
      case round =>
        clear hO3 hQb3 hQa hK13 S0
        obtain ⟨k, O, T, hk, rfl, rfl, HS, hT, hQb, hQa, hK⟩ := hrel
        by_cases hlt : k < l.length
        · have hla : k < (srtN l).length := by rw [LA.out]; exact hlt
          have qa2 : QRow eI w2.heap.size wr (.slice aa (nJ (srtN l)).length ca2) (nJ (srtN l)) := by rw [nJ_len, LA.out]; exact hQa
          obtain ⟨pa, offa, rfl, hRa⟩ := qa2.arg.at (j := k) (by rw [nJ_len]; exact hla)
          have a0 := hRa.i k (by rw [nJ_len]; exact hla)
          rw [nJ_get] at a0
          have ilt := LT.out k hla
          have SY := Lib.hid (fun f => HS.out.yes hla f)
          have SN := Lib.hid (fun f => HS.out.no hla f)
          have OL := Lib.hid HS.out.lt
          generalize (srtN l)[k] = i at *
          obtain ⟨p, off, rfl, hR⟩ := (HA.out.later hK).at ilt
          have v0 := hR.c0 i ilt
          have v1 := hR.c1 i ilt
          have IT1 := ITA.out _ (List.getElem_mem ilt)
          have EI := Lib.hid (itN_get l i ilt)
          have k1 : (k : Int) < (l.length : Int) := by omega
          have i1 : (i : Int) < (l.length : Int) := by omega
          have O40 : O.length ≤ 1000000 := by
            have := (hQb.is)
            obtain ⟨a', c', e, h1, h2, _⟩ := this
            have := HS.out.nd.length_le_of_subset (l₂ := List.range m.length) (fun j hj => List.mem_range.2 (HS.out.lt j hj))
            rw [List.length_range] at this
            omega
          have HT := Lib.hid hT
          have HQb := Lib.hid hQb
          have HQa := Lib.hid hQa
          have HK := Lib.hid hK
          have CE := Lib.hid (fun (W : World) (kq : Kept wr W) => show W.cell? ⟨pa, offa + k, none⟩ = some (.int .i64 (i : Int)) ∧ W.cell? ⟨p, off + i * 2, none⟩ = some (.int .i64 (l[i]).1) ∧ W.cell? ⟨p, off + i * 2 + 1, none⟩ = some (.int .i64 (l[i]).2) from
            ⟨(kq.rd.1 _ _ hRa.lt).trans a0, (kq.rd.1 _ _ hR.lt).trans v0, (kq.rd.1 _ _ hR.lt).trans v1⟩)
          clear qa2 hRa hR HS hT hQb hQa hK
          generalize l[i] = x at *
          generalize wr = wo at *
          go_wp2
          go_loopw [9, 37] (fun v c wq => ∃ t : Nat, t ≤ O.length ∧ c = .int .i64 t ∧ v = .slice ab O.length cb2 ∧ Hid (∀ j (hj : j < O.length), j < t → tieF l m h i O[j] = false) ∧ Drew wo wq) (fun _ c _ => O.length - (intOf c).toNat)
          case atStart => exact ⟨0, Nat.zero_le _, rfl, rfl, Lib.hid (fun j _ e => absurd e (Nat.not_lt_zero _)), Drew.refl _⟩
          case round =>
            clear a0 v0 v1
            obtain ⟨t, ht, rfl, rfl, HF, hD⟩ := hrel
            have kq := hD.kept
            have hT := HT.out.later kq
            have hKz := HK.out.trans kq
            have hQbz := HQb.out.later kq
            have hQaz := HQa.out.later kq
            obtain ⟨a0, v0, v1⟩ := CE.out _ kq
            by_cases hlo : t < O.length
            · have qb2 : QRow eI sB wr (.slice ab (nJ O).length cb2) (nJ O) := by rw [nJ_len]; exact hQbz
              obtain ⟨pb, offb, rfl, hRb⟩ := qb2.arg.at (j := t) (by rw [nJ_len]; exact hlo)
              have b0 := hRb.i t (by rw [nJ_len]; exact hlo)
              rw [nJ_get] at b0
              have ylt := OL.out O[t] (List.getElem_mem hlo)
              have SYt := Lib.hid (fun (f : tieF l m h i O[t] = true) => show RefSt l m h (k + 1) (O.eraseIdx t) (up T i ((O[t] : Nat) : Int)) from by
                have e : O.findIdx (tieF l m h i) = t := (List.findIdx_eq hlo).2 ⟨f, fun j hj => HF.out j (by omega) hj⟩
                have h2 := SY.out (by rw [e]; exact hlo)
                simp only [e] at h2
                exact h2)
              have NOO := Lib.hid (fun (f : tieF l m h i O[t] = false) => show ∀ j (hj : j < O.length), j < t + 1 → tieF l m h i O[j] = false from fun j hj e => by
                by_cases c : j = t
                · subst c; exact f
                · exact HF.out j hj (by omega))
              obtain ⟨p2, off2, rfl, hR2⟩ := (HB.out.later hKz).at ylt
              have u0 := hR2.c0 O[t] ylt
              have u1 := hR2.c1 O[t] ylt
              have IT2 := ITB.out _ (List.getElem_mem ylt)
              have FE := Lib.hid (show tieF l m h i O[t] = fitB h x (m[O[t]]) from by unfold tieF; rw [EI.out, itN_get m _ ylt])
              have o1 : (O[t] : Int) < (m.length : Int) := by omega
              clear qb2 hRb hR2
              generalize m[O[t]] = x' at *
              generalize hy : O[t] = y at *
              have HY := Lib.hid hy
              clear hy
              have t1 : (t : Int) < (O.length : Int) := by omega
              have w1' : IntKind.i64.wrap (x'.1 - x.1) = x'.1 - x.1 := IntWalk.i64_in _ (by omega)
              have AB := Lib.hid (fun (z : Nat) => gabs_any (x'.1 - x.1) (wr.drewN z) (by omega) (by omega))
              have AV := Lib.hid (show max (x'.1 - x.1) (-(x'.1 - x.1)) = max (x.1 - x'.1) (x'.1 - x.1) by omega)
              generalize max (x'.1 - x.1) (-(x'.1 - x.1)) = av at *
              clear SY
              by_cases g1 : x'.2 = x.2
              · have b1 : (x'.2 == x.2) = true := by simpa using g1
                by_cases g2 : av ≤ h
                · have b2 : decide (av ≤ h) = true := by simpa using g2
                  have fit : tieF l m h i y = true := by
                    rw [FE.out]
                    unfold fitB
                    rw [Bool.and_eq_true]
                    exact ⟨decide_eq_true g1.symm, decide_eq_true (by have := AV.out; omega)⟩
                  have S2 := Lib.hid (SYt.out fit)
                  clear SYt NOO FE AV fit g1 g2
                  go_wp2_with fail
                  go_quiet (first | (go_at_call 52; exact quiet_same (AB.out _)))
                  have kn := (Kept.refl wr).drewN nq
                  have hT := hT.later kn
                  have hKz := hKz.drewN nq
                  have hQbz := hQbz.later kn
                  have hQaz := hQaz.later kn
                  have ct0 := hT.cell i (by rw [tab_len]; exact ilt)
                  have ct1 := hT.free i (by rw [tab_len]; exact ilt)
                  clear a0 b0 u0 u1 v0 v1 AB HT HQb HQa HK kq hD kn
                  generalize wr.drewN nq = wz at *
                  have hT2 := hT.set i (y : Int) (by rw [tab_len]; exact ilt)
                  rw [tab_set] at hT2
                  have HT2 := Lib.hid hT2
                  have gs := grownBy_setAt wz gt i (.int .i64 (y : Int))
                  have gl2 := gl
                  have HB2 := Lib.hid (hQbz.grown gs (fun z e e2 => by
                    have := GB.out O.length z e
                    have e3 : gt = z := by simpa using e2
                    omega))
                  have HA2 := Lib.hid (hQaz.grown gs (fun z e e2 => by
                    have := (hQaz.lt z e).1
                    have e3 : gt = z := by simpa using e2
                    omega))
                  have HK2 := Lib.hid (hKz.setAt gtw (i := i) (.int .i64 (y : Int)))
                  have u2 : IntKind.i64.wrap ((t : Int) + 1) = (t : Int) + 1 := IntWalk.i64_in _ (by omega)
                  have GE := Lib.hid (gerase_any (some ⟨pb, offb, none⟩) cb2 t sB (nJ O) (wz.setCell ⟨gt, i, none⟩ (.int .i64 (y : Int))) (by rw [nJ_len]; exact HB2.out) (by rw [nJ_len]; exact hlo))
                  rw [nJ_len, nIJ, nI_erase] at GE
                  clear hT hQbz hQaz hKz hT2 gs
                  go_wp2_with fail
                  refine GE.out.mono ?_
                  rintro e w8 ⟨rfl, hQ8, hg8⟩
                  have hT8 := HT2.out.grownO hg8 (fun e => by
                    have := GB.out O.length gt (by rw [← e])
                    omega)
                  have hA8 := HA2.out.grown hg8 (fun z e e2 => AP.out O.length l.length z e2 e)
                  have hK8 := HK2.out.grew hg8 (fun z e => by have := GB.out O.length z e; omega)
                  rw [nI_len] at hQ8 ⊢
                  clear GE HT2 HB2 HA2 HK2 hg8 ct0 ct1
                  go_wp2
                  go_roundw
                  case rel => exact ⟨k + 1, O.eraseIdx t, _, by omega, by go_num, rfl, S2, hT8, hQ8, hA8, hK8⟩
                  case measure => simp [intOf]; omega
                · have b2 : decide (av ≤ h) = false := by simpa using g2
                  have nofit : tieF l m h i y = false := by
                    rw [FE.out]
                    unfold fitB
                    rw [Bool.and_eq_false_iff]
                    exact .inr (decide_eq_false (by have := AV.out; omega))
                  have N2 := Lib.hid (NOO.out nofit)
                  clear SYt NOO FE AV nofit g1 g2 hT hKz hQbz hQaz
                  go_wp2_with fail
                  go_quiet (first | (go_at_call 52; exact quiet_same (AB.out _)))
                  go_wp2
                  go_roundw
                  case rel => exact ⟨t + 1, by omega, by go_num, rfl, N2, hD.drewN nq⟩
                  case measure => simp [intOf]; omega
              · have b1 : (x'.2 == x.2) = false := by simpa using g1
                have nofit : tieF l m h i y = false := by
                  rw [FE.out]
                  unfold fitB
                  rw [Bool.and_eq_false_iff]
                  exact .inl (decide_eq_false (fun e => g1 e.symm))
                have N2 := Lib.hid (NOO.out nofit)
                clear SYt NOO FE AV nofit g1 AB hT hKz hQbz hQaz
                go_wp2_with fail
                go_quiet (fail)
                go_wp2
                go_roundw
                case rel => exact ⟨t + 1, by omega, by go_num, rfl, N2, hD.drewN nq⟩
                case measure => simp [intOf]; omega
            · obtain rfl : t = O.length := by omega
              have S2 := Lib.hid (SN.out (fun f => by
                have f2 := List.findIdx_getElem (w := f)
                rw [HF.out _ f f] at f2
                cases f2))
              have n1 : ¬ ((O.length : Int) < (O.length : Int)) := by omega
              clear hlo SY SN a0 v0 v1 HT HQb HQa HK HF
              go_wp2
              go_roundw
              case rel => exact ⟨k + 1, O, T, by omega, by go_num, rfl, S2, hT, hQbz, hQaz, hKz⟩
              case measure => simp [intOf]; omega
        · obtain rfl : k = l.length := by omega
          have ed : tab l.length T = tieL l m h := RefSt.done (by rw [LA.out]; exact HS.out)
          rw [ed] at hT
          have HT := Lib.hid hT
          have k1 : ¬ ((l.length : Int) < (l.length : Int)) := by omega
          clear hlt hQb hQa HS hT
          go_wp2
          go_ret
          exact ⟨gt, by rw [TL.out]; rfl, gtw, HT.out, hK⟩
end Go.Proofs.Ytdgiljndoeldcaa
