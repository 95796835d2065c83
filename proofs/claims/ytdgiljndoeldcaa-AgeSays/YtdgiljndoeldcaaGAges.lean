/-
  What age.Ages returns. No condition but those that each theorem names.
-/
import Derived.Test.YtdgiljndoeldcaaGChk
import Derived.Test.YtdgiljndoeldcaaTMathC
namespace Go.Proofs.Ytdgiljndoeldcaa
open Go.RowKit
set_option linter.unusedVariables false

/-! cmp.Less, slices.isNaN, slices.BinarySearch at integers. -/
set_option maxHeartbeats 2000000 in
theorem nan_any (z : Int) (w : World) : Calls Try.prog 70 #[.int .i64 z] w fun e w' => e = .returned (.bool false) ∧ w = w' := by
  go_enter Try.func70, Try.ntmps70
  go_wp2
  go_ret
  exact ⟨rfl, rfl⟩
set_option maxHeartbeats 2000000 in
theorem snan_any (z : Int) (w : World) : Calls Try.prog 73 #[.int .i64 z] w fun e w' => e = .returned (.bool false) ∧ w = w' := by
  go_enter Try.func73, Try.ntmps73
  go_wp2
  go_ret
  exact ⟨rfl, rfl⟩
set_option maxHeartbeats 2000000 in
theorem less_anyI (x y : Int) (w : World) : Calls Try.prog 72 #[.int .i64 x, .int .i64 y] w fun e w' => e = .returned (.bool (decide (x < y))) ∧ w = w' := by
  go_enter Try.func72, Try.ntmps72
  go_wp2_with fail
  refine (nan_any _ _).mono ?_
  rintro e w1 ⟨rfl, rfl⟩
  go_wp2
  go_ret
  exact ⟨rfl, rfl⟩
/-- Rising bounds. -/
def Rises (bs : List Int) : Prop := bs.Pairwise (· < ·)
/-- Where a search stops: the first that is not below. -/
def loI (bs : List Int) (x : Int) : Nat := bs.findIdx fun b => decide (x ≤ b)
theorem loI_le (bs : List Int) (x : Int) : loI bs x ≤ bs.length := List.findIdx_le_length
theorem loI_lt {bs : List Int} (h : Rises bs) {x : Int} {j : Nat} (hj : j < bs.length) : j < loI bs x ↔ bs[j] < x := by
  constructor
  · intro k
    have := List.not_of_lt_findIdx (p := fun b => decide (x ≤ b)) k
    simpa using this
  · intro k
    by_cases c : j < loI bs x
    · exact c
    · exfalso
      have hl : loI bs x < bs.length := by omega
      have hp : decide (x ≤ bs[loI bs x]) = true := List.findIdx_getElem (w := hl)
      have hp' : x ≤ bs[loI bs x] := by simpa using hp
      by_cases e : loI bs x = j
      · simp only [e] at hp'; omega
      · have := List.pairwise_iff_getElem.1 h (loI bs x) j hl hj (by omega)
        omega
theorem mid_natI (i j : Nat) : ∃ h : Nat, ((i : Int) + (j : Int)) / 2 = (h : Int) ∧ h = (i + j) / 2 := ⟨(i + j) / 2, by omega, rfl⟩
/-- The place, and some word about it. -/
def BsPost (w : World) (k : Nat) (e : Ending) (w' : World) : Prop := ∃ b : Bool, e = .returned (.tuple #[.int .i64 k, .bool b]) ∧ w = w'
set_option maxRecDepth 100000 in
set_option maxHeartbeats 8000000 in
theorem bs_any (a : Option Addr) (bs : List Int) (cap : Nat) (x : Int) (w : World) (hn : bs.length ≤ 1000) (hA : JArg eI w a bs) (hR : Rises bs) :
    Calls Try.prog 44 #[.slice a bs.length cap, .int .i64 x] w (BsPost w (loI bs x)) := by
  have HA := Lib.hid hA
  have LT := Lib.hid (fun j (hj : j < bs.length) => loI_lt hR (x := x) hj)
  have le := loI_le bs x
  clear hA hR
  generalize loI bs x = t at *
  go_enter Try.func44, Try.ntmps44
  go_wp2
  go_loopw [7, 8] (fun s u wr => ∃ i j : Nat, i ≤ t ∧ t ≤ j ∧ j ≤ bs.length ∧ s = .int .i64 i ∧ u = .int .i64 j ∧ w = wr) (fun s u _ => (intOf u - intOf s).toNat)
  case atStart => exact ⟨0, bs.length, Nat.zero_le _, le, Nat.le_refl _, rfl, rfl, rfl⟩
  case round =>
    obtain ⟨i, j, i0, ij, jb, rfl, rfl, rfl⟩ := hrel
    by_cases hlt : i < j
    · obtain ⟨h, hh, he⟩ := mid_natI i j
      have HH := Lib.hid hh
      have x1 : i ≤ h := by omega
      have x2 : h < j := by omega
      have hl : h < bs.length := by omega
      obtain ⟨p, off, rfl, hp⟩ := HA.out.at hl
      have c0 := hp.i h hl
      have c1 : w.cell? ⟨p, off + (i + j) / 2, none⟩ = some (.int .i64 bs[h]) := by rw [← he]; exact c0
      clear hh he
      have LH := Lib.hid (LT.out h hl)
      clear hp
      generalize bs[h] = y at *
      have e1 : (h : Int) < (bs.length : Int) := by omega
      go_wp2_with fail
      rw [HH.out]
      go_wp2_with fail
      refine (less_anyI y x _).mono ?_
      rintro e w1 ⟨rfl, rfl⟩
      by_cases c : y < x
      · have cb : decide (y < x) = true := by simpa using c
        have ht := LH.out.2 c
        rw [cb]
        clear cb c
        go_wp2
        go_roundw
        case rel => exact ⟨h + 1, j, by omega, by omega, by omega, by go_num, rfl, trivial⟩
        case measure => simp [intOf]; omega
      · have cb : decide (y < x) = false := by simpa using c
        have ht : ¬ h < t := fun k => c (LH.out.1 k)
        rw [cb]
        clear cb c
        go_wp2
        go_roundw
        case rel => exact ⟨i, h, by omega, by omega, by omega, rfl, rfl, trivial⟩
        case measure => simp [intOf]; omega
    · obtain rfl : i = t := by omega
      obtain rfl : i = j := by omega
      clear hlt LT
      by_cases c : i < bs.length
      · obtain ⟨p, off, rfl, hp⟩ := HA.out.at c
        have c0 := hp.i i c
        clear hp
        generalize bs[i] = y at *
        have e1 : (i : Int) < (bs.length : Int) := by omega
        by_cases d : y = x
        · have db : (y == x) = true := by simpa using d
          clear d
          go_wp2
          go_ret2
          exact ⟨_, rfl, rfl⟩
        · have db : (y == x) = false := by simpa using d
          clear d
          go_wp2_with fail
          refine (snan_any _ _).mono ?_
          rintro e w1 ⟨rfl, rfl⟩
          go_wp2
          go_ret2
          exact ⟨_, rfl, rfl⟩
      · have cb : decide ((i : Int) < (bs.length : Int)) = false := by simp; omega
        have cc : decide (i < bs.length) = false := by simp; omega
        clear c
        go_wp2
        go_ret2
        exact ⟨_, rfl, rfl⟩

/-! The check of the bounds. -/
/-- P48: the error of the bounds that follow one. -/
def bdF : Int → List Int → Int
  | _, [] => 0
  | p, b :: r => if 0 ≤ b ∧ b ≤ 292193 then (if p < b then bdF b r else 3) else 1
def bdE (bs : List Int) : Int := if 40 < bs.length then 2 else bdF (-1) bs
structure BdOk (bs : List Int) : Prop where
  len : bs.length ≤ 40
  bd : ∀ b ∈ bs, 0 ≤ b ∧ b ≤ 292193
  inc : Rises bs
theorem bdF_ok : ∀ {bs : List Int} {p : Int}, bdF p bs = 0 → (∀ b ∈ bs, 0 ≤ b ∧ b ≤ 292193 ∧ p < b) ∧ Rises bs
  | [], p, _ => ⟨fun b h => (by cases h), List.Pairwise.nil⟩
  | b :: r, p, h => by
    unfold bdF at h
    by_cases c : 0 ≤ b ∧ b ≤ 292193
    · rw [if_pos c] at h
      by_cases d : p < b
      · rw [if_pos d] at h
        obtain ⟨i1, i2⟩ := bdF_ok h
        refine ⟨fun x hx => ?_, List.pairwise_cons.2 ⟨fun y hy => (i1 y hy).2.2, i2⟩⟩
        rcases List.mem_cons.1 hx with rfl | hx
        · exact ⟨c.1, c.2, d⟩
        · have := i1 x hx
          exact ⟨this.1, this.2.1, by omega⟩
      · rw [if_neg d] at h; cases h
    · rw [if_neg c] at h; cases h
theorem bdE_ok {bs : List Int} (h : bdE bs = 0) : BdOk bs := by
  unfold bdE at h
  split at h
  · cases h
  · rename_i c
    obtain ⟨a, b⟩ := bdF_ok h
    exact ⟨by omega, fun x hx => ⟨(a x hx).1, (a x hx).2.1⟩, b⟩
theorem bdF_in : ∀ (bs : List Int) (p : Int), bdF p bs = 0 ∨ bdF p bs = 1 ∨ bdF p bs = 3
  | [], p => .inl rfl
  | b :: r, p => by
    unfold bdF
    split
    · split
      · exact bdF_in r b
      · exact .inr (.inr rfl)
    · exact .inr (.inl rfl)
/-- The one before a place. -/
def bdP (bs : List Int) (k : Nat) : Int := if k = 0 then -1 else bs.getD (k - 1) 0
theorem bdP_succ (bs : List Int) (k : Nat) (h : k < bs.length) : bdP bs (k + 1) = bs[k] := by
  unfold bdP; rw [if_neg (by omega), Nat.add_sub_cancel, List.getD_eq_getElem?_getD, List.getElem?_eq_getElem h]; rfl
theorem bd_step {bs : List Int} {k : Nat} (h : k < bs.length) (e : bdF (bdP bs k) (bs.drop k) = bdF (-1) bs) :
    bdF (-1) bs = if 0 ≤ bs[k] ∧ bs[k] ≤ 292193 then (if bdP bs k < bs[k] then bdF (bdP bs (k + 1)) (bs.drop (k + 1)) else 3) else 1 := by
  rw [← e, List.drop_eq_getElem_cons h, bdP_succ bs k h]; rfl
set_option maxRecDepth 100000 in
set_option maxHeartbeats 8000000 in
theorem cbd_any (a : Option Addr) (bs : List Int) (cap : Nat) (w : World) (hn : bs.length ≤ maxLen) (hA : JArg eI w a bs) :
    Calls Try.prog 43 #[.slice a bs.length cap] w fun e w' => e = .returned (.int .i64 (bdE bs)) ∧ Kept w w' := by
  unfold maxLen at hn
  by_cases big : 40 < bs.length
  · have E : bdE bs = 2 := by unfold bdE; rw [if_pos big]
    rw [E]
    go_enter Try.func43, Try.ntmps43
    go_wp2
    go_ret
    exact ⟨rfl, Kept.refl _⟩
  · have SE := Lib.hid (show bdE bs = bdF (-1) bs by unfold bdE; rw [if_neg big])
    have HA := Lib.hid hA
    have n40 : bs.length ≤ 40 := by omega
    clear hA big hn
    go_enter Try.func43, Try.ntmps43
    go_wp2
    go_loopw [10] (fun i wr => ∃ (k : Nat), k ≤ bs.length ∧ i = .int .i64 k ∧ Hid (bdF (bdP bs k) (bs.drop k) = bdF (-1) bs) ∧ w = wr) (fun i _ => bs.length - (intOf i).toNat)
    case atStart => exact ⟨0, Nat.zero_le _, rfl, Lib.hid rfl, rfl⟩
    case round =>
      obtain ⟨k, hk, rfl, HE, rfl⟩ := hrel
      by_cases hlt : k < bs.length
      · obtain ⟨p, off, rfl, hR⟩ := HA.out.at hlt
        have c0 := hR.i k hlt
        have ST := Lib.hid (bd_step hlt HE.out)
        have i1 : (k : Int) < (bs.length : Int) := by omega
        by_cases r1 : 0 ≤ bs[k] ∧ bs[k] ≤ 292193
        · by_cases k0 : k = 0
          · subst k0
            have ep : bdP bs 0 = -1 := rfl
            have c00 : w.cell? ⟨p, off, none⟩ = some (.int .i64 bs[0]) := by rw [← Nat.add_zero off]; exact c0
            have HX := Lib.hid (show bdF (bdP bs (0 + 1)) (bs.drop (0 + 1)) = bdF (-1) bs by
              have := ST.out
              rw [if_pos r1, ep, if_pos (by omega)] at this
              exact this.symm)
            obtain ⟨r2, r3⟩ := r1
            clear hR ST HE ep
            generalize bs[0] = x at *
            go_wp2
            go_roundw
            case rel => exact ⟨0 + 1, by omega, by go_num, HX, trivial⟩
            case measure => simp [intOf]; omega
          · obtain ⟨j, rfl⟩ : ∃ j, k = j + 1 := ⟨k - 1, by omega⟩
            have hj : j < bs.length := by omega
            have ep := bdP_succ bs j hj
            have c1 := hR.i j hj
            have j1 : (j : Int) < (bs.length : Int) := by omega
            by_cases r4 : bs[j] < bs[j + 1]
            · have HX := Lib.hid (show bdF (bdP bs (j + 1 + 1)) (bs.drop (j + 1 + 1)) = bdF (-1) bs by
                have := ST.out
                rw [if_pos r1, ep, if_pos r4] at this
                exact this.symm)
              obtain ⟨r2, r3⟩ := r1
              clear hR ST HE ep
              generalize bs[j + 1] = x at *
              generalize bs[j] = y at *
              have r5 : ¬ (x ≤ y) := by omega
              go_wp2
              go_roundw
              case rel => exact ⟨j + 1 + 1, by omega, by go_num, HX, trivial⟩
              case measure => simp [intOf]; omega
            · have HX := Lib.hid (show bdE bs = 3 by
                have := ST.out
                rw [if_pos r1, ep, if_neg r4] at this
                rw [SE.out]; exact this)
              obtain ⟨r2, r3⟩ := r1
              clear hR ST HE ep
              generalize bs[j + 1] = x at *
              generalize bs[j] = y at *
              have r5 : x ≤ y := by omega
              go_wp2
              go_ret
              exact ⟨ret_int HX.out.symm, Kept.refl _⟩
        · have HX := Lib.hid (show bdE bs = 1 by
            have := ST.out
            rw [if_neg r1] at this
            rw [SE.out]; exact this)
          clear hR ST HE
          generalize bs[k] = x at *
          by_cases r2 : 0 ≤ x
          · have r3 : 292193 < x := by omega
            go_wp2
            go_ret
            exact ⟨ret_int HX.out.symm, Kept.refl _⟩
          · have r3 : x < 0 := by omega
            go_wp2
            go_ret
            exact ⟨ret_int HX.out.symm, Kept.refl _⟩
      · obtain rfl : k = bs.length := by omega
        have Z := Lib.hid (show bdE bs = 0 by
          have := HE.out
          rw [List.drop_length] at this
          rw [SE.out, ← this]; rfl)
        clear hlt HE
        go_wp2
        go_ret
        exact ⟨ret_int Z.out.symm, Kept.refl _⟩

/-! Ages. -/
/-- P48: its error. -/
def aeE (l : List Mv) (today : Int) (bs : List Int) : Int := if itE l = 0 then (if 0 ≤ today ∧ today ≤ 292193 then bdE bs else 1) else itE l
structure AeOk (l : List Mv) (today : Int) (bs : List Int) : Prop where
  it : ItOk l
  d0 : 0 ≤ today
  d1 : today ≤ 292193
  bd : BdOk bs
theorem aeE_ok {l : List Mv} {today : Int} {bs : List Int} (h : aeE l today bs = 0) : AeOk l today bs := by
  unfold aeE at h
  split at h
  · rename_i c
    split at h
    · rename_i d
      exact ⟨itE_iff.1 c, d.1, d.2, bdE_ok h⟩
    · cases h
  · rename_i c
    exact absurd h c
def AgesNone (w : World) (E : Int) (e : Ending) (w' : World) : Prop := e = .returned (.tuple #[.slice none 0 0, .int .i64 E]) ∧ Kept w w'
set_option maxHeartbeats 4000000 in
theorem ages_no (a b : Option Addr) (l : List Mv) (bs : List Int) (cap cap' : Nat) (today : Int) (w : World) (hn : l.length ≤ maxLen) (hm : bs.length ≤ maxLen) (hA : JArg eP w a l) (hB : JArg eI w b bs) (h : aeE l today bs ≠ 0) :
    Calls Try.prog 16 #[.slice a l.length cap, .int .i64 today, .slice b bs.length cap'] w (AgesNone w (aeE l today bs)) := by
  have AC := Lib.hid (acheck_any a l cap w hn hA)
  have BC := Lib.hid (fun (w' : World) (k : Kept w w') => cbd_any b bs cap' w' hm (hB.later k))
  clear hA hB
  by_cases h0 : itE l = 0
  · rw [h0] at AC
    by_cases c : 0 ≤ today ∧ today ≤ 292193
    · have E : aeE l today bs = bdE bs := by unfold aeE; rw [if_pos h0, if_pos c]
      rw [E] at h ⊢
      have I1 := Lib.hid (inG_yes c.1 c.2)
      have nb : (bdE bs != 0) = true := by rw [bne_iff_ne]; exact h
      generalize bdE bs = x at *
      clear h E h0 c
      go_enter Try.func16, Try.ntmps16
      go_wp2_with fail
      refine AC.out.mono ?_
      rintro e w1 ⟨rfl, hK1⟩
      go_wp2_with fail
      refine (vday_any _ _).mono ?_
      rintro e w2 ⟨rfl, rfl⟩
      rw [I1.out]
      go_wp2_with fail
      refine (BC.out _ hK1).mono ?_
      rintro e w2 ⟨rfl, hK2⟩
      go_wp2
      go_ret2
      exact ⟨rfl, hK1.trans hK2⟩
    · have E : aeE l today bs = 1 := by unfold aeE; rw [if_pos h0, if_neg c]
      rw [E]
      have I1 := Lib.hid (inG_no c)
      clear h E h0 c
      go_enter Try.func16, Try.ntmps16
      go_wp2_with fail
      refine AC.out.mono ?_
      rintro e w1 ⟨rfl, hK1⟩
      go_wp2_with fail
      refine (vday_any _ _).mono ?_
      rintro e w2 ⟨rfl, rfl⟩
      rw [I1.out]
      go_wp2
      go_ret2
      exact ⟨rfl, hK1⟩
  · have E : aeE l today bs = itE l := by unfold aeE; rw [if_neg h0]
    rw [E]
    clear h E
    have nb : (itE l != 0) = true := by rw [bne_iff_ne]; exact h0
    generalize itE l = x at *
    clear h0
    go_enter Try.func16, Try.ntmps16
    go_wp2_with fail
    refine AC.out.mono ?_
    rintro e w1 ⟨rfl, hK1⟩
    go_wp2
    go_ret2
    exact ⟨rfl, hK1⟩
theorem agK_app (bs : List Int) (today : Int) (k : Nat) : ∀ l m : List Mv, agK bs today k (l ++ m) = agK bs today k l + agK bs today k m
  | [], m => by simp [agK]
  | x :: r, m => by rw [List.cons_append, agK, agK_app bs today k r m, agK]; omega
theorem agK_bd (bs : List Int) (today : Int) (k : Nat) : ∀ {l : List Mv}, (∀ x ∈ l, 0 ≤ x.1 ∧ x.1 ≤ 292193 ∧ 1 ≤ x.2 ∧ x.2 ≤ 1000000000000) → 0 ≤ agK bs today k l ∧ agK bs today k l ≤ 1000000000000 * (l.length : Int)
  | [], _ => by simp [agK]
  | x :: r, h => by
    have hx := h x (List.mem_cons_self ..)
    have := agK_bd bs today k (l := r) (fun y hy => h y (List.mem_cons_of_mem _ hy))
    rw [agK, List.length_cons]
    split <;> omega
/-- The sums so far. -/
def agF (bs : List Int) (today : Int) (l : List Mv) (j : Nat) : Nat → Int := fun k => agK bs today k (l.take j)
theorem agF_succ (bs : List Int) (today : Int) (l : List Mv) (j : Nat) (h : j < l.length) : up (agF bs today l j) (bkD bs today l[j]) (agF bs today l j (bkD bs today l[j]) + (l[j]).2) = agF bs today l (j + 1) := by
  funext k
  unfold up agF
  rw [take_snocP l j h, agK_app]
  have e : agK bs today k [l[j]] = if bkD bs today l[j] = k then (l[j]).2 else 0 := by rw [agK]; simp [agK]
  rw [e]
  by_cases c : k = bkD bs today l[j]
  · rw [if_pos c, if_pos c.symm, c]
  · rw [if_neg c, if_neg (fun h => c h.symm)]; omega
/-- The sums as a row of the call's own. -/
def AgesPost (w : World) (s : List Int) (e : Ending) (w' : World) : Prop :=
  ∃ g, e = .returned (.tuple #[.slice (some ⟨g, 0, none⟩) s.length s.length, .int .i64 0]) ∧ w.heap.size ≤ g ∧ Own w' g s ∧ Kept w w'
theorem agL_len (bs : List Int) (today : Int) (l : List Mv) : (agL bs today l).length = bs.length + 1 := by simp [agL]
set_option maxRecDepth 100000 in
set_option maxHeartbeats 8000000 in
theorem ages_yes (a b : Option Addr) (l : List Mv) (bs : List Int) (cap cap' : Nat) (today : Int) (w : World) (hA : JArg eP w a l) (hB : JArg eI w b bs) (h : aeE l today bs = 0) :
    Calls Try.prog 16 #[.slice a l.length cap, .int .i64 today, .slice b bs.length cap'] w (AgesPost w (agL bs today l)) := by
  obtain ⟨ok, d0, d1, bd⟩ := aeE_ok h
  have hn : l.length ≤ 40 := ok.len
  have hm : bs.length ≤ 40 := bd.len
  have e1 : itE l = 0 := itE_iff.2 ok
  have e2 : bdE bs = 0 := by
    unfold aeE at h
    rwa [if_pos e1, if_pos ⟨d0, d1⟩] at h
  have AC := Lib.hid (acheck_any a l cap w (by unfold maxLen; omega) hA)
  have BC := Lib.hid (fun (w' : World) (k : Kept w w') => cbd_any b bs cap' w' (by unfold maxLen; omega) (hB.later k))
  rw [e1] at AC
  rw [e2] at BC
  have I1 := Lib.hid (inG_yes d0 d1)
  have BS := Lib.hid (fun (w' : World) (k : Kept w w') (x : Int) => bs_any b bs cap' x w' (by omega) (hB.later k) bd.inc)
  have HA := Lib.hid hA
  have OK := Lib.hid ok.it
  have AL := Lib.hid (show tab (bs.length + 1) (agF bs today l l.length) = agL bs today l by unfold tab agL agF; rw [List.take_length])
  have LN := Lib.hid (agL_len bs today l)
  generalize agL bs today l = res at *
  clear hA hB h ok bd e1 e2
  go_enter Try.func16, Try.ntmps16
  go_wp2_with fail
  refine AC.out.mono ?_
  rintro e w1 ⟨rfl, hK1⟩
  go_wp2_with fail
  refine (vday_any _ _).mono ?_
  rintro e w2 ⟨rfl, rfl⟩
  rw [I1.out]
  go_wp2_with fail
  refine (BC.out _ hK1).mono ?_
  rintro e w2 ⟨rfl, hK2⟩
  have hK12 := hK1.trans hK2
  have mk : (Instr.makeSlice 23 (.int .i64 ((bs.length : Int) + 1)) (.int .i64 ((bs.length : Int) + 1))).run Try.prog w2 = .ok (.slice (some ⟨w2.heap.size, 0, none⟩) (bs.length + 1) (bs.length + 1)) (w2.alloc (.cells (zs (bs.length + 1)) 3)) := make_ints (bs.length + 1) (by omega) w2
  clear hK1 hK2 AC BC I1
  go_wp2
  have hO := Own.made (w := w2) (n := bs.length + 1) (t := 3) rfl
  have hK := hK12.alloc (.cells (zs (bs.length + 1)) 3)
  rw [tab_zero] at hO
  have hgw : w.heap.size ≤ w2.heap.size := hK12.size
  generalize w2.heap.size = g at *
  clear mk hK12
  generalize w2.alloc (.cells (zs (bs.length + 1)) 3) = w3 at *
  go_loopw [35] (fun i wr => ∃ j : Nat, j ≤ l.length ∧ i = .int .i64 j ∧ Own wr g (tab (bs.length + 1) (agF bs today l j)) ∧ Kept w wr) (fun i _ => l.length - (intOf i).toNat)
  case atStart => exact ⟨0, Nat.zero_le _, rfl, hO, hK⟩
  case round =>
    clear hO hK
    obtain ⟨j, hj, rfl, hOr, hKr⟩ := hrel
    by_cases hlt : j < l.length
    · obtain ⟨p, off, rfl, hR⟩ := (HA.out.later hKr).at hlt
      have c0 := hR.c0 j hlt
      have c1 := hR.c1 j hlt
      have plt := hR.lt
      have X := OK.out l[j] (List.getElem_mem hlt)
      have SU := Lib.hid (agF_succ bs today l j hlt)
      have blt : bkD bs today l[j] < bs.length + 1 := by have := loI_le bs (ageD today l[j]); unfold loI at this; unfold bkD; omega
      have BB := agK_bd bs today (bkD bs today l[j]) (l := l.take j) (fun x hx => OK.out x (List.mem_of_mem_take hx))
      have BL : ((l.take j).length : Int) ≤ 40 := by rw [List.length_take]; omega
      have BX := Lib.hid (fun (w' : World) (k : Kept w w') => BS.out w' k (ageD today l[j]))
      have EB : loI bs (ageD today l[j]) = bkD bs today l[j] := rfl
      rw [EB] at BX
      have EA := Lib.hid (show ageD today l[j] = max 0 (today - (l[j]).1) from rfl)
      change 0 ≤ agF bs today l j (bkD bs today l[j]) ∧ agF bs today l j (bkD bs today l[j]) ≤ _ at BB
      generalize ageD today l[j] = ag at *
      generalize bkD bs today l[j] = q at *
      generalize l[j] = x at *
      have x1 := X.1
      have x2 := X.2.1
      have x3 := X.2.2.1
      have x4 := X.2.2.2
      have hKA := hKr.alloc (.cells #[.int .i64 x.1, .int .i64 x.2] 31)
      have hOA := hOr.later ((Kept.refl wr).alloc (.cells #[.int .i64 x.1, .int .i64 x.2] 31))
      have bx1 : (wr.alloc (.cells #[.int .i64 x.1, .int .i64 x.2] 31)).cell? ⟨wr.heap.size, 1, none⟩ = some (.int .i64 x.2) := by simp
      have HB := Lib.hid (BX.out _ hKA)
      have qi : (q : Int) < ((bs.length + 1 : Nat) : Int) := by omega
      have qi2 : (q : Int) < (bs.length : Int) + 1 := by omega
      have wsub : IntKind.i64.wrap (today - x.1) = today - x.1 := IntWalk.i64_in _ (by omega)
      have wsum : IntKind.i64.wrap (agF bs today l j q + x.2) = agF bs today l j q + x.2 := IntWalk.i64_in _ (by omega)
      have S1 := hOA.drew.set q (agF bs today l j q + x.2) (by rw [tab_len]; exact blt)
      rw [tab_set, SU.out] at S1
      have HS := Lib.hid S1
      have HKA := Lib.hid hKA
      have g0 := hOA.cell q (by rw [tab_len]; exact blt)
      have gf := hOA.free q (by rw [tab_len]; exact blt)
      rw [tab_get] at g0
      generalize agF bs today l j q = sq at *
      clear hOr hKr hR X BB BL SU S1 hKA hOA EB BX
      by_cases neg : today - x.1 < 0
      · obtain rfl : ag = 0 := by have := EA.out; omega
        go_wp2_with fail
        refine HB.out.mono ?_
        rintro e w5 ⟨bb, rfl, rfl⟩
        go_wp2
        go_region
        all_goals go_wp2
        all_goals
          go_roundw
          case rel => exact ⟨j + 1, by omega, by go_num, HS.out, HKA.out.drew.setAt hgw _⟩
          case measure => simp [intOf]; omega
      · obtain rfl : ag = today - x.1 := by have := EA.out; omega
        go_wp2_with fail
        refine HB.out.mono ?_
        rintro e w5 ⟨bb, rfl, rfl⟩
        go_wp2
        go_region
        all_goals go_wp2
        all_goals
          go_roundw
          case rel => exact ⟨j + 1, by omega, by go_num, HS.out, HKA.out.drew.setAt hgw _⟩
          case measure => simp [intOf]; omega
    · obtain rfl : j = l.length := by omega
      have HO := Lib.hid hOr
      rw [AL.out] at HO
      clear hlt hOr
      go_wp2
      go_ret2
      exact ⟨g, by rw [LN.out]; rfl, hgw, HO.out, hKr⟩
end Go.Proofs.Ytdgiljndoeldcaa
