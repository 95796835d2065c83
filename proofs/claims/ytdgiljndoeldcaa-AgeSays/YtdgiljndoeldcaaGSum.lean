/-
  Sums of ages: what the buckets hold together, by days. No condition but those that each theorem names.
-/
import Derived.Test.YtdgiljndoeldcaaGAges
import Derived.Test.YtdgiljndoeldcaaGOrd
namespace Go.Proofs.Ytdgiljndoeldcaa
open Go.RowKit
set_option linter.unusedVariables false

/-- All in the first ones. -/
def agP (bs : List Int) (today : Int) (k : Nat) : List Mv → Int
  | [] => 0
  | x :: r => (if bkD bs today x < k then x.2 else 0) + agP bs today k r
theorem agP_zero (bs : List Int) (today : Int) : ∀ l : List Mv, agP bs today 0 l = 0
  | [] => rfl
  | x :: r => by rw [agP, if_neg (by omega), agP_zero bs today r]; rfl
theorem agP_succ (bs : List Int) (today : Int) (k : Nat) : ∀ l : List Mv, agP bs today (k + 1) l = agP bs today k l + agK bs today k l
  | [] => rfl
  | x :: r => by
    rw [agP, agP, agK, agP_succ bs today k r]
    by_cases c : bkD bs today x < k
    · rw [if_pos (by omega), if_pos c, if_neg (by omega)]; omega
    · by_cases d : bkD bs today x = k
      · rw [if_pos (by omega), if_neg c, if_pos d]; omega
      · rw [if_neg (by omega), if_neg c, if_neg d]; omega
theorem bkD_le (bs : List Int) (today : Int) (x : Mv) : bkD bs today x ≤ bs.length := List.findIdx_le_length
theorem agP_all (bs : List Int) (today : Int) : ∀ l : List Mv, agP bs today (bs.length + 1) l = csm l
  | [] => rfl
  | x :: r => by rw [agP, if_pos (by have := bkD_le bs today x; omega), agP_all bs today r, csm]
theorem agL_get (bs : List Int) (today : Int) (l : List Mv) (k : Nat) (h : k < (agL bs today l).length) : (agL bs today l)[k] = agK bs today k l := by
  have e : (agL bs today l)[k]? = some (agK bs today k l) := by
    have h2 := h
    rw [agL_len] at h2
    unfold agL
    rw [List.getElem?_map, List.getElem?_range h2]; rfl
  exact Option.some.inj (by rw [← List.getElem?_eq_getElem h, e])
theorem agL_take (bs : List Int) (today : Int) (l : List Mv) : ∀ k, k ≤ bs.length + 1 → sumI ((agL bs today l).take k) = agP bs today k l
  | 0, _ => by rw [agP_zero]; rfl
  | k + 1, h => by
    have hk : k < (agL bs today l).length := by rw [agL_len]; omega
    rw [take_snocP _ k hk, sumI_app, agL_take bs today l k (by omega), agP_succ, agL_get, sumI, sumI]; omega
theorem agL_sum (bs : List Int) (today : Int) (l : List Mv) : sumI (agL bs today l) = csm l := by
  have := agL_take bs today l (bs.length + 1) (Nat.le_refl _)
  rwa [agP_all, ← agL_len bs today l, List.take_length] at this
theorem agL_pos {bs : List Int} {today : Int} {l : List Mv} (h : ∀ x ∈ l, 0 ≤ x.1 ∧ x.1 ≤ 292193 ∧ 1 ≤ x.2 ∧ x.2 ≤ 1000000000000) : ∀ y ∈ agL bs today l, 0 ≤ y := by
  intro y hy
  obtain ⟨k, hk, rfl⟩ := List.getElem_of_mem hy
  rw [agL_get]
  exact (agK_bd bs today k h).1
/-- The place grows with the age. -/
theorem loI_mono {bs : List Int} (hR : Rises bs) {x y : Int} (h : x ≤ y) : loI bs x ≤ loI bs y := by
  by_cases c : loI bs x ≤ loI bs y
  · exact c
  · exfalso
    have hl : loI bs y < bs.length := by have := loI_le bs x; omega
    have h1 := (loI_lt hR (x := x) hl).1 (by omega)
    have h2 := (loI_lt hR (x := y) hl).2 (by omega)
    omega
theorem bkD_later {bs : List Int} (hR : Rises bs) (today : Int) (x : Mv) : bkD bs today x ≤ bkD bs (today + 1) x := by
  refine loI_mono hR ?_
  unfold ageD; omega
theorem agP_later {bs : List Int} (hR : Rises bs) (today : Int) (k : Nat) : ∀ {l : List Mv}, (∀ x ∈ l, 1 ≤ x.2) → agP bs (today + 1) k l ≤ agP bs today k l
  | [], _ => Int.le_refl _
  | x :: r, h => by
    have hx := h x (List.mem_cons_self ..)
    have i := agP_later hR today k (l := r) (fun y hy => h y (List.mem_cons_of_mem _ hy))
    have b := bkD_later hR today x
    rw [agP, agP]
    by_cases c : bkD bs (today + 1) x < k
    · rw [if_pos c, if_pos (by omega)]; omega
    · rw [if_neg c]
      split <;> omega
/-- By days: the first k+1 hold what is not older than bound k. -/
theorem agP_cum {bs : List Int} (hR : Rises bs) (hb : ∀ b ∈ bs, 0 ≤ b ∧ b ≤ 292193) (today : Int) (k : Nat) (hk : k < bs.length) : ∀ l : List Mv, agP bs today (k + 1) l = yoD today bs[k] l
  | [] => rfl
  | x :: r => by
    rw [agP, yoD, agP_cum hR hb today k hk r]
    congr 1
    have e : bkD bs today x < k + 1 ↔ ageD today x ≤ bs[k] := by
      have := loI_lt hR (x := ageD today x) hk
      have e2 : loI bs (ageD today x) = bkD bs today x := rfl
      rw [e2] at this
      constructor
      · intro h
        by_cases c : bs[k] < ageD today x
        · have := this.2 c; omega
        · omega
      · intro h
        by_cases c : k < bkD bs today x
        · have := this.1 c; omega
        · omega
    by_cases c : bkD bs today x < k + 1
    · rw [if_pos c, if_pos (e.1 c)]
    · rw [if_neg c, if_neg (fun h => c (e.2 h))]
/-- Items that agree up to each day have the same ages. -/
theorem agL_same {bs : List Int} (ok : BdOk bs) (today : Int) {l m : List Mv} (hs : csm l = csm m) (hd : ∀ d, cumD d l = cumD d m) : agL bs today l = agL bs today m := by
  have hP : ∀ k, k ≤ bs.length + 1 → agP bs today k l = agP bs today k m := by
    intro k hk
    by_cases c0 : k = 0
    · subst c0; rw [agP_zero, agP_zero]
    · by_cases c1 : k = bs.length + 1
      · subst c1; rw [agP_all, agP_all, hs]
      · obtain ⟨j, rfl⟩ : ∃ j, k = j + 1 := ⟨k - 1, by omega⟩
        have hj : j < bs.length := by omega
        rw [agP_cum ok.inc ok.bd today j hj, agP_cum ok.inc ok.bd today j hj, yoD_cum _ _ _ (ok.bd _ (List.getElem_mem hj)).1, yoD_cum _ _ _ (ok.bd _ (List.getElem_mem hj)).1, hs, hd]
  apply List.ext_getElem
  · rw [agL_len, agL_len]
  · intro k h1 h2
    rw [agL_get, agL_get]
    rw [agL_len] at h1
    have a := agP_succ bs today k l
    have b := agP_succ bs today k m
    have c := hP k (by omega)
    have d := hP (k + 1) (by omega)
    omega
theorem payR_max : ∀ {l : List Mv} {n : Int}, (∀ x ∈ l, 1 ≤ x.2) → 0 ≤ n → payR l n = max 0 (n - csm l)
  | [], n, _, h0 => by rw [payR, csm]; omega
  | x :: r, n, h, h0 => by
    have hx := h x (List.mem_cons_self ..)
    have hr : ∀ y ∈ r, 1 ≤ y.2 := fun y hy => h y (List.mem_cons_of_mem _ hy)
    have c0 := (csm0 hr).1
    rw [csm]
    by_cases c : x.2 ≤ n
    · rw [(pay_le c).2, payR_max hr (by omega)]; omega
    · rw [(pay_gt c).2]; omega
/-- Items in another order, paid alike: the same sums, the same rest. -/
theorem pay_turned {l m : List Mv} (hp : l.Perm m) (ok : ItOk l) {n : Int} (n0 : 0 ≤ n) : payR (srtD l) n = payR (srtD m) n ∧ csm (payL (srtD l) n) = csm (payL (srtD m) n) ∧ ∀ d, cumD d (payL (srtD l) n) = cumD d (payL (srtD m) n) := by
  have ok2 := ok.perm hp
  have p1 : ∀ v ∈ srtD l, 1 ≤ v.2 := fun v hv => (ok.it v ((srtD_perm l).subset hv)).2.2.1
  have p2 : ∀ v ∈ srtD m, 1 ≤ v.2 := fun v hv => (ok2.it v ((srtD_perm m).subset hv)).2.2.1
  have pm : (srtD l).Perm (srtD m) := (srtD_perm l).trans (hp.trans (srtD_perm m).symm)
  have e : payR (srtD l) n = payR (srtD m) n := by rw [payR_max p1 n0, payR_max p2 n0, csm_perm pm]
  refine ⟨e, ?_, fun d => ?_⟩
  · have a := (pay_sum p1 n0).1
    have b := (pay_sum p2 n0).1
    rw [csm_perm pm] at a
    omega
  · rw [pay_cum (srtD_srt l) p1 n0, pay_cum (srtD_srt m) p2 n0, cumD_perm pm]
end Go.Proofs.Ytdgiljndoeldcaa
