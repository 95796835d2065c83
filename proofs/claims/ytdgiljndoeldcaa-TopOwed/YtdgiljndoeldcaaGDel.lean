/-
  What the library's DeleteFunc leaves of items. No condition but those that each theorem names.
-/
import Derived.Test.YtdgiljndoeldcaaGPayB
namespace Go.Proofs.Ytdgiljndoeldcaa
open Go.RowKit Go.Sort Go.WideShapes
set_option linter.unusedVariables false

theorem gsize_setCells {b : Nat} : ∀ (vs : List Value) (o : Nat) (w : World), (w.setCells b o vs).heap.size = w.heap.size
  | [], _, _ => rfl
  | v :: r, o, w => by rw [World.setCells, gsize_setCells r]; simp
theorem gkept_setCells {B : World} {b : Nat} (hb : B.heap.size ≤ b) : ∀ (vs : List Value) (o : Nat) (w : World), Kept B w → Kept B (w.setCells b o vs)
  | [], _, _, h => h
  | v :: r, o, w, h => by rw [World.setCells]; exact gkept_setCells hb r (o + 1) _ (h.setAt hb v)
theorem run_clear_items (w : World) (ty : TypeId) (b o n c : Nat) (hn : 0 < n)
    (hc : ∀ j, j < n * 2 → (w.cell? ⟨b, o + j, none⟩).isSome = true) (hf : ∀ j, j < n * 2 → w.frozen? ⟨b, o + j, none⟩ = false) :
    (Builtin.clear_ #[22] ty #[.slice (some ⟨b, o, none⟩) n c]).run Try.prog w = .ok (.tuple #[]) (w.setCells b o (List.replicate (n * 2) (.int .i64 0))) := by
  have hzc : (Builtin.zeroCells (Value.agg #[.int .i64 0, .int .i64 0]).cells n).toList = List.replicate (n * 2) (.int .i64 0) := by
    apply List.ext_getElem
    · simp [Builtin.zeroCells, Value.cells]
    · intro i h1 h2
      have : i % 2 = 0 ∨ i % 2 = 1 := by omega
      rcases this with e | e <;> simp [Builtin.zeroCells, Value.cells, e]
  have hst := run_storeCells_cells (P := Try.prog) b o (List.replicate (n * 2) (.int .i64 0)) 0 w (by simpa using hc) (by simpa using hf) (by intro v hv'; rw [List.eq_of_mem_replicate hv']; rfl)
  simp only [Nat.add_zero] at hst
  obtain ⟨m, rfl⟩ : ∃ m, n = m + 1 := ⟨n - 1, by omega⟩
  simp [Builtin.clear_, run_underlying Try.underlying22, hzc, hst]
/-- What is left. -/
def ltP (m : List Mv) : List Mv := m.filter (fun x => !(x.2 == 0))
theorem ltP_snoc (m : List Mv) (x : Mv) : ltP (m ++ [x]) = ltP m ++ (if (x.2 == 0) = true then [] else [x]) := by
  unfold ltP
  rw [List.filter_append]
  congr 1
  by_cases h : (x.2 == 0) = true
  · rw [if_pos h, List.filter_cons_of_neg (by simp [h])]; rfl
  · rw [if_neg h, List.filter_cons_of_pos (by simp [h])]; rfl
/-- The row on the way: the first ones are what is left so far, those from j on as they were. -/
structure DelSt (m : List Mv) (j : Nat) (G : Int → Mv) : Prop where
  lo : ∀ q, q < (ltP (m.take j)).length → G q = itN (ltP (m.take j)) q
  hi : ∀ q, j ≤ q → q < m.length → G q = itN m q
theorem itN_append_left (l r : List Mv) (q : Nat) (h : q < l.length) : itN (l ++ r) q = itN l q := by
  rw [itN_get _ _ (by rw [List.length_append]; omega), itN_get _ _ h, List.getElem_append_left h]
theorem DelSt.skip {m : List Mv} {j : Nat} {G : Int → Mv} (h : DelSt m j G) (hj : j < m.length) (b : ((m[j]).2 == 0) = true) : ltP (m.take (j + 1)) = ltP (m.take j) ∧ DelSt m (j + 1) G := by
  have e : ltP (m.take (j + 1)) = ltP (m.take j) := by rw [take_snocP m j hj, ltP_snoc, if_pos b, List.append_nil]
  exact ⟨e, fun q hq => by rw [e] at hq ⊢; exact h.lo q hq, fun q h1 h2 => h.hi q (by omega) h2⟩
theorem DelSt.keep {m : List Mv} {j : Nat} {G : Int → Mv} (h : DelSt m j G) (hj : j < m.length) (b : ((m[j]).2 == 0) = false) (lt : (ltP (m.take j)).length < j) : (ltP (m.take (j + 1))).length = (ltP (m.take j)).length + 1 ∧ DelSt m (j + 1) (upC G (ltP (m.take j)).length m[j]) := by
  have e : ltP (m.take (j + 1)) = ltP (m.take j) ++ [m[j]] := by rw [take_snocP m j hj, ltP_snoc, if_neg (by rw [b]; simp)]
  have el : (ltP (m.take (j + 1))).length = (ltP (m.take j)).length + 1 := by rw [e, List.length_append]; rfl
  refine ⟨el, fun q hq => ?_, fun q h1 h2 => ?_⟩
  · rw [el] at hq
    rw [e]
    unfold upC
    by_cases c : q = (ltP (m.take j)).length
    · rw [if_pos (by rw [c]), itN_get _ _ (by rw [List.length_append, c]; simp)]
      subst c
      rw [List.getElem_append_right (Nat.le_refl _)]
      simp
    · rw [if_neg (by omega), itN_append_left _ _ _ (by omega)]
      exact h.lo q (by omega)
  · unfold upC
    rw [if_neg (by omega)]
    exact h.hi q (by omega) h2
theorem DelSt.start {m : List Mv} {i : Nat} (hi : i < m.length) (hp : ((m[i]).2 == 0) = true) (hb : ∀ j (h : j < m.length), j < i → ((m[j]).2 == 0) = false) : (ltP (m.take (i + 1))).length = i ∧ DelSt m (i + 1) (itC m) := by
  have e : ltP (m.take i) = m.take i := by
    unfold ltP
    rw [List.filter_eq_self]
    intro x hx
    obtain ⟨j, hj, rfl⟩ := List.getElem_of_mem hx
    rw [List.length_take] at hj
    rw [List.getElem_take]
    rw [hb j (by omega) (by omega)]; rfl
  have e2 : ltP (m.take (i + 1)) = m.take i := by rw [take_snocP m i hi, ltP_snoc, if_pos hp, List.append_nil, e]
  rw [e2]
  refine ⟨by rw [List.length_take]; omega, fun q hq => ?_, fun q h1 h2 => itC_nat m q⟩
  rw [e2] at hq ⊢
  rw [List.length_take] at hq
  rw [itC_nat, itN_get m q (by omega), itN_get (m.take i) q (by rw [List.length_take]; omega), List.getElem_take]
theorem ltP_len (m : List Mv) : (ltP m).length ≤ m.length := List.length_filter_le _ _
/-- What is so behind the call. -/
def DelPost (B : World) (g c : Nat) (m : List Mv) (e : Ending) (w' : World) : Prop := e = .returned (.slice (some ⟨g, 0, none⟩) (ltP m).length c) ∧ IL w' g (ltP m) ∧ Kept B w'
set_option maxRecDepth 100000 in
set_option maxHeartbeats 8000000 in
theorem delete_any (m : List Mv) (g c : Nat) (B w : World) (hn : m.length ≤ 1000) (hc : m.length ≤ c) (hcm : c ≤ maxLen) (hO : IL w g m) (hp : B.heap.size ≤ g) (hK : Kept B w) :
    Calls Try.prog 40 #[.slice (some ⟨g, 0, none⟩) m.length c, paidF] w (DelPost B g c m) := by
  have hcm' : c ≤ 9223372036854775807 := hcm
  by_cases hf : m.findIdx (fun x => x.2 == 0) < m.length
  · have hi := hf
    have ef : fiP m = (m.findIdx (fun x => x.2 == 0) : Int) := by unfold fiP; rw [if_pos hf]
    have hp1 : ((m[m.findIdx (fun x => x.2 == 0)]).2 == 0) = true := List.findIdx_getElem (w := hf)
    have hb1 : ∀ j (h : j < m.length), j < m.findIdx (fun x => x.2 == 0) → ((m[j]).2 == 0) = false := fun j _ hj => by simpa using List.not_of_lt_findIdx hj
    generalize m.findIdx (fun x => x.2 == 0) = i at *
    have ST := Lib.hid (DelSt.start hi hp1 hb1)
    have EF := Lib.hid ef
    have HO := Lib.hid hO
    have n1 : ((i : Int) == -1) = false := by rw [beq_eq_false_iff_ne]; omega
    clear hp1 hb1 ef hO hf
    go_enter Try.func40, Try.ntmps40
    go_wp2_with fail
    refine (idx_any _ m _ _ hn (IL.arg HO.out)).mono ?_
    rintro e w1 ⟨rfl, hK1⟩
    rw [EF.out]
    have HO1 := Lib.hid (IL.later HO.out hK1)
    have HK1 := hK.trans hK1
    clear HO hK hK1
    go_wp2
    go_loopw [5, 6] (fun s u wr => ∃ (ii j : Nat) (G : Int → Mv), s = .int .i64 ii ∧ u = .int .i64 j ∧ ii < j ∧ j ≤ m.length ∧ Hid (ii = (ltP (m.take j)).length) ∧ Hid (DelSt m j G) ∧ IOw G wr g m.length idn ∧ Kept B wr) (fun _ u _ => m.length - (intOf u).toNat)
    case atStart => exact ⟨i, i + 1, itC m, rfl, by go_num, by omega, by omega, Lib.hid ST.out.1.symm, Lib.hid ST.out.2, HO1.out, HK1⟩
    case round =>
      clear HO1 HK1
      obtain ⟨ii, j, G, rfl, rfl, hij, hj, HL, HS, hOr, hKr⟩ := hrel
      by_cases hlt : j < m.length
      · have gv : G ((idn j)) = m[j] := by rw [show idn j = (j : Int) from rfl, HS.out.hi j (Nat.le_refl _) hlt, itN_get m j hlt]
        have c0 := hOr.c0 j hlt
        have c1 := hOr.c1 j hlt
        rw [gv] at c0 c1
        have SK := Lib.hid (fun b => HS.out.skip hlt b)
        have KP := Lib.hid (fun b => HS.out.keep hlt b (by rw [← HL.out]; exact hij))
        rw [← HL.out] at KP
        have plt := hOr.lt
        have PU := Lib.hid (fun (w' : World) (k : Kept wr w') => (hOr.later k).put (i := ii) (by omega) m[j])
        have HOR := Lib.hid hOr
        clear gv HS hOr
        generalize m[j] = x at *
        have i1 : (ii : Int) < (m.length : Int) := by omega
        by_cases b : (x.2 == 0) = true
        · obtain ⟨s1, s2⟩ := SK.out b
          have S1 := Lib.hid s1
          have S2 := Lib.hid s2
          clear s1 s2 KP PU
          go_wp2_with fail
          refine (pay2_any x _).mono ?_
          rintro e w2 ⟨rfl, hK2⟩
          rw [b]
          have hK3 : Kept wr w2 := ((Kept.refl wr).alloc _).trans hK2
          go_wp2
          go_roundw
          case rel => exact ⟨ii, j + 1, G, rfl, by go_num, by omega, by omega, Lib.hid (by rw [S1.out]; exact HL.out), S2, HOR.out.later hK3, hKr.trans hK3⟩
          case measure => simp [intOf]; omega
        · have b' : (x.2 == 0) = false := by simpa using b
          obtain ⟨s1, s2⟩ := KP.out b'
          have S1 := Lib.hid s1
          have S2 := Lib.hid s2
          clear s1 s2 SK b
          have bl : wr.heap.size ≠ g := by omega
          go_wp2_with fail
          refine (pay2_any x _).mono ?_
          rintro e w2 ⟨rfl, hK2⟩
          rw [b']
          have hK3 : Kept wr w2 := ((Kept.refl wr).alloc _).trans hK2
          have d0 : w2.cell? ⟨wr.heap.size, 0, none⟩ = some (.int .i64 x.1) := by rw [hK2.rd.1 _ _ (by simp)]; simp
          have d1 : w2.cell? ⟨wr.heap.size, 1, none⟩ = some (.int .i64 x.2) := by rw [hK2.rd.1 _ _ (by simp)]; simp
          have hO3 := HOR.out.later hK3
          have e0 := hO3.c0 ii (by omega)
          have e1 := hO3.c1 ii (by omega)
          have f0 := hO3.f0 ii (by omega)
          have f1 := hO3.f1 ii (by omega)
          have PP := Lib.hid (PU.out _ hK3)
          have HK := Lib.hid (hKr.trans hK3)
          clear hO3 PU HOR hKr hK2 hK3
          go_wp2
          go_roundw
          case rel => exact ⟨ii + 1, j + 1, _, by go_num, by go_num, by omega, by omega, Lib.hid S1.out.symm, S2, PP.out, (HK.out.setAt hp _).setAt hp _⟩
          case measure => simp [intOf]; omega
      · obtain rfl : j = m.length := by omega
        have hle : (ltP m).length = ii := by have := HL.out; rw [List.take_length] at this; exact this.symm
        have hcl := fun ty => run_clear_items wr ty g (ii * 2) (m.length - ii) (c - ii) (by omega) (fun t ht => by
          have : ii * 2 + t < m.length * 2 := by omega
          have := hOr.own.cell (ii * 2 + t) (by rw [tab_len]; exact this)
          rw [this]; rfl) (fun t ht => hOr.own.free (ii * 2 + t) (by rw [tab_len]; omega))
        have HE := Lib.hid (show IL (wr.setCells g (ii * 2) (List.replicate ((m.length - ii) * 2) (.int .i64 0))) g (ltP m) from by
          unfold IL
          rw [hle]
          have h1 := hOr.shrink (n := ii) (by omega)
          have h2 : IOw (itC (ltP m)) wr g ii idn := h1.congr (fun q hq => by
            have := HS.out.lo q (by rw [List.take_length, hle]; exact hq)
            rw [List.take_length] at this
            unfold idn
            rw [itC_nat]; exact this)
          refine ⟨⟨by rw [gsize_setCells]; exact h2.lt, fun t ht => ?_, fun t ht => ?_⟩⟩
          · have ht' := ht
            rw [tab_len] at ht'
            rw [World.cell?_setCells_out _ _ _ _ _ (fun _ _ => .inl (by simpa using ht'))]
            exact h2.own.cell t ht
          · rw [World.frozen?_setCells]
            exact h2.own.free t ht)
        have HK2 := Lib.hid (show Kept B (wr.setCells g (ii * 2) (List.replicate ((m.length - ii) * 2) (.int .i64 0))) from gkept_setCells hp _ _ _ hKr)
        have HLE := Lib.hid hle
        have i1 : ii ≤ m.length := by omega
        have i2 : ii ≤ c := by omega
        have i3 : c ≠ ii := by omega
        have i4 : (ii : Int) ≤ (m.length : Int) := by omega
        have i5 : (ii : Int) ≤ (c : Int) := by omega
        clear hlt HL HS hOr hKr hle
        go_wp2
        go_ret
        exact ⟨by rw [HLE.out]; rfl, HE.out, HK2.out⟩
  · have ef : fiP m = -1 := by unfold fiP; rw [if_neg hf]
    have el : ltP m = m := by
      unfold ltP
      rw [List.filter_eq_self]
      intro x hx
      obtain ⟨j, hj, rfl⟩ := List.getElem_of_mem hx
      have := List.findIdx_eq_length.1 (show m.findIdx (fun x => x.2 == 0) = m.length by have := List.findIdx_le_length (p := fun x : Mv => x.2 == 0) (xs := m); omega) _ (List.getElem_mem hj)
      simp at this
      simp [this]
    have EL := Lib.hid el
    have EF := Lib.hid ef
    have HO := Lib.hid hO
    clear hf ef hO el
    go_enter Try.func40, Try.ntmps40
    go_wp2_with fail
    refine (idx_any _ m _ _ hn (IL.arg HO.out)).mono ?_
    rintro e w1 ⟨rfl, hK1⟩
    rw [EF.out]
    have HO1 := Lib.hid (IL.later HO.out hK1)
    go_wp2
    go_ret
    exact ⟨by rw [EL.out]; rfl, by rw [EL.out]; exact HO1.out, hK.trans hK1⟩
/-! .. of nothing. -/
set_option maxHeartbeats 2000000 in
theorem delete_none (a : Option Addr) (c : Nat) (w : World) :
    Calls Try.prog 40 #[.slice a 0 c, paidF] w fun e w' => e = .returned (.slice a 0 c) ∧ Kept w w' := by
  have hi := idx_any a [] c w (by simp) (.inl rfl)
  have ef : fiP [] = -1 := rfl
  rw [ef] at hi
  have HI := Lib.hid hi
  clear hi
  go_enter Try.func40, Try.ntmps40
  go_wp2_with fail
  refine HI.out.mono ?_
  rintro e w1 ⟨rfl, hK1⟩
  go_wp2
  go_ret
  exact ⟨rfl, hK1⟩
end Go.Proofs.Ytdgiljndoeldcaa
