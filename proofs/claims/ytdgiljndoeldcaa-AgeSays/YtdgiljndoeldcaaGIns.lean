/-
  slices.Insert of one number into a row of the call's own that grows, said of lists. No condition but those that each theorem names.
-/
import Derived.Test.YtdgiljndoeldcaaGAge
import Derived.Test.YtdgiljndoeldcaaPApp
import Derived.Test.YtdgiljndoeldcaaNShelf
namespace Go.Proofs.Ytdgiljndoeldcaa
open Go.RowKit Go.WideShapes Go.Sort
set_option linter.unusedVariables false

theorem catI : ∀ l : List Int, eI.cat l = l.map (Value.int .i64)
  | [] => rfl
  | x :: r => by rw [Jec.cat, catI r]; rfl
theorem zsetCells_size (b : Nat) : ∀ (vs : List Value) (o : Nat) (w : World), (w.setCells b o vs).heap.size = w.heap.size
  | [], _, _ => rfl
  | v :: r, o, w => by
    show ((w.setCell ⟨b, o, none⟩ v).setCells b (o + 1) r).heap.size = _
    rw [zsetCells_size b r]; simp
theorem zkept_setCells {a : World} {b : Nat} (hb : a.heap.size ≤ b) : ∀ (vs : List Value) (o : Nat) (w : World), Kept a w → Kept a (w.setCells b o vs)
  | [], _, _, h => h
  | v :: r, o, _, h => zkept_setCells hb r (o + 1) _ (h.setAt hb v)
/-- Some numbers written over a row, or behind it. -/
theorem qm_over {w : World} {p off c : Nat} {l : List Int} (h : QMem eI w p off c l) (s : Nat) (xs : List Int) (hs : s ≤ l.length) (hc : s + xs.length ≤ c) :
    QMem eI (w.setCells p (off + s) (xs.map (Value.int .i64))) p off c (l.take s ++ xs ++ l.drop (s + xs.length)) := by
  have k1 : eI.k = 1 := rfl
  have room : ∀ j, j < (xs.map (Value.int .i64)).length → (w.cell? ⟨p, off + s + j, none⟩).isSome = true := fun j hj => by
    rw [List.length_map] at hj
    rw [Nat.add_assoc]
    exact (h.room (s + j) (by rw [k1]; omega)).1
  have ts : (l.take s).length = s := by rw [List.length_take]; omega
  refine ⟨⟨by rw [zsetCells_size]; exact h.row.lt, fun j u hj => ?_⟩, fun j hj => ?_⟩
  · rw [catI, List.getElem?_map] at hj
    by_cases c1 : j < s
    · rw [World.cell?_setCells_out p _ _ _ _ (fun _ _ => .inl (by show off + j < off + s; omega))]
      refine h.row.c j u ?_
      rw [catI, List.getElem?_map]
      rw [List.append_assoc, List.getElem?_append_left (by omega), List.getElem?_take, if_pos c1] at hj
      exact hj
    · by_cases c2 : j < s + xs.length
      · rw [List.append_assoc, List.getElem?_append_right (by omega), ts, List.getElem?_append_left (by omega)] at hj
        have := World.cell?_setCells_in p (xs.map (Value.int .i64)) (off + s) w room (j - s) (by rw [List.length_map]; omega)
        rw [show off + s + (j - s) = off + j by omega] at this
        rw [this]
        rw [List.getElem?_eq_getElem (by omega)] at hj
        simpa using hj
      · rw [World.cell?_setCells_out p _ _ _ _ (fun _ _ => .inr (by rw [List.length_map]; show off + s + xs.length ≤ off + j; omega))]
        refine h.row.c j u ?_
        rw [catI, List.getElem?_map]
        rw [List.append_assoc, List.getElem?_append_right (by omega), ts, List.getElem?_append_right (by omega), List.getElem?_drop, show s + xs.length + (j - s - xs.length) = j by omega] at hj
        exact hj
  · rw [World.frozen?_setCells]
    refine ⟨?_, (h.room j hj).2⟩
    by_cases hin : s ≤ j ∧ j < s + xs.length
    · have := World.cell?_setCells_in p (xs.map (Value.int .i64)) (off + s) w room (j - s) (by rw [List.length_map]; omega)
      rw [show off + s + (j - s) = off + j by omega] at this
      rw [this]; simp
    · rw [World.cell?_setCells_out p _ _ _ _ (fun _ _ => by rw [List.length_map]; simp; omega)]
      exact (h.room j hj).1
theorem QMem.drewq {α : Type} {E : Jec α} {w : World} {p off c : Nat} {l : List α} (h : QMem E w p off c l) : QMem E w.drew p off c l := h.later (Kept.refl w).drew
/-- A new block that holds a row and room. -/
theorem qm_new {w : World} {l : List Int} {t : TypeId} {cur : Array Value} {c : Nat} (h : ∀ (j : Nat) (u : Value), (l.map (Value.int .i64))[j]? = some u → cur[j]? = some u) (hc : c ≤ cur.size) : QMem eI (w.alloc (.cells cur t)) w.heap.size 0 c l := by
  refine ⟨⟨by simp, fun j u hj => ?_⟩, fun j hj => ?_⟩
  · rw [catI] at hj
    rw [Nat.zero_add, World.cell?_alloc_at cur t w.heap.size j rfl]
    exact h j u hj
  · have k1 : eI.k = 1 := rfl
    rw [k1] at hj
    rw [Nat.zero_add, World.cell?_alloc_at cur t w.heap.size j rfl, Array.getElem?_eq_getElem (by omega)]
    exact ⟨rfl, by simp⟩
/-- One laid between. -/
def insAt (l : List Int) (i : Nat) (z : Int) : List Int := l.take i ++ z :: l.drop i
theorem insAt_len (l : List Int) (i : Nat) (z : Int) (h : i ≤ l.length) : (insAt l i z).length = l.length + 1 := by
  unfold insAt; rw [List.length_append, List.length_cons, List.length_take, List.length_drop]; omega
def GinsPost (B : World) (l : List Int) (e : Ending) (w' : World) : Prop := ∃ v, e = .returned v ∧ QRow eI B.heap.size w' v l ∧ Kept B w'
set_option maxHeartbeats 2000000 in
theorem gins_any (v : Value) (l : List Int) (i : Nat) (z : Int) (w B : World) (hQ : QRow eI B.heap.size w v l) (hK : Kept B w) (hi : i ≤ l.length) (hn : l.length ≤ 1000) :
    Calls Try.prog 74 #[v, .int .i64 (i : Int), .slice (some ⟨w.heap.size, 0, none⟩) 1 1] (w.alloc (.cells #[.int .i64 z] 3)) (GinsPost B (insAt l i z)) := by
  have hK1 := hK.alloc (.cells #[.int .i64 z] 3)
  have kA := (Kept.refl w).alloc (.cells #[.int .i64 z] 3)
  have hQ1 := hQ.later kA
  have hlt := hQ.lt
  have hv : (w.alloc (.cells #[.int .i64 z] 3)).cell? ⟨w.heap.size, 0, none⟩ = some (.int .i64 z) := by simp
  have hvf : ∀ j, (w.alloc (.cells #[.int .i64 z] 3)).frozen? ⟨w.heap.size, j, none⟩ = false := fun j => by simp
  have hvl : w.heap.size < (w.alloc (.cells #[.int .i64 z] 3)).heap.size := by simp
  have hvsh : (w.alloc (.cells #[.int .i64 z] 3)).shape? w.heap.size = some (3, 1) := by simp only [World.shape?, heap_alloc_new]; rfl
  have h1v : ∀ u ∈ [Value.int .i64 z], u.oneCell' = true := fun u hu => by simp at hu; subst hu; rfl
  have h1c : ∀ u ∈ l.map (Value.int .i64), u.oneCell' = true := fun u hu => by
    rw [List.mem_map] at hu
    obtain ⟨x, _, rfl⟩ := hu
    rfl
  have hcl : (l.map (Value.int .i64)).length = l.length := List.length_map ..
  generalize hX : w.alloc (.cells #[.int .i64 z] 3) = X at *
  have hvs : ∀ (j : Nat) (u : Value), [Value.int .i64 z][j]? = some u → X.cell? ⟨w.heap.size, 0 + j, none⟩ = some u := by
    intro j u hj
    match j, hj with
    | 0, hj => simp at hj; subst hj; exact hv
  have BX : B.heap.size ≤ X.heap.size := hK1.size
  obtain ⟨a, c, rfl, h1, h2, h3⟩ := id hQ1.is
  have h63 : c ≤ 9223372036854775807 := h2
  have gk := grownCap_ge X (l.length + 1) c (Try.laysNm221_ren.t 3)
  have gm := grownCap_le_maxLen X (l.length + 1) c (Try.laysNm221_ren.t 3) (by unfold maxLen; omega)
  by_cases room : l.length + 1 ≤ c
  · rcases h3 with ⟨_, hc0⟩ | ⟨p, off, rfl, hBp, hm⟩
    · omega
    have pX : p ≠ w.heap.size := by have := (hlt p rfl).2; omega
    by_cases lt : i < l.length
    · have c0 := hm.row.i i lt
      obtain ⟨tB, kB, hsb, ho, _⟩ := World.shape?_of_cell? c0
      have h := Any2.slices_Insert_int_shift Try.laysNm221 p off l.length c i w.heap.size 0 1 1 (l.map (Value.int .i64)) [.int .i64 z] X lt (by omega) room h63 (fun e => pX e.symm) hcl rfl
        (fun j u hj => hm.row.c j u (by rw [catI]; exact hj)) (fun j hj => (hm.room j (by show j < c * 1; omega)).1) (fun j hj => (hm.room j (by show j < c * 1; omega)).2) hvs h1c h1v 3 tB 1 kB hvsh hsb (by simp only at ho; omega) (hvf 0) (hvf 1)
      refine (show Calls Try.prog 74 _ _ _ from h).mono ?_
      rintro e w' ⟨rfl, rfl⟩
      have q1 := qm_over hm.drewq (i + 1) (l.drop i) (by omega) (by rw [List.length_drop]; omega)
      rw [List.map_drop] at q1
      have e1 : l.take (i + 1) ++ l.drop i ++ l.drop (i + 1 + (l.drop i).length) = l.take (i + 1) ++ l.drop i := by
        have d0 : l.drop (i + 1 + (l.drop i).length) = [] := List.drop_eq_nil_of_le (by rw [List.length_drop]; omega)
        rw [d0, List.append_nil]
      rw [e1] at q1
      have q2 := qm_over q1 i [z] (by rw [List.length_append, List.length_take]; omega) (by simp; omega)
      have e2 : (l.take (i + 1) ++ l.drop i).take i ++ [z] ++ (l.take (i + 1) ++ l.drop i).drop (i + [z].length) = insAt l i z := by
        unfold insAt
        have tl : (l.take (i + 1)).length = i + 1 := by rw [List.length_take]; omega
        rw [List.take_append_of_le_length (by omega), List.take_take, Nat.min_eq_left (by omega), List.length_singleton, List.drop_append_of_le_length (by omega), List.drop_of_length_le (by omega), List.nil_append, List.append_assoc]
        rfl
      rw [e2] at q2
      refine ⟨_, rfl, ⟨_, c, by rw [insAt_len l i z hi], by rw [insAt_len l i z hi]; exact room, h2, .inr ⟨p, off, rfl, hBp, q2⟩⟩, ?_⟩
      exact zkept_setCells hBp _ _ _ (zkept_setCells hBp _ _ _ hK1.drew)
    · obtain rfl : i = l.length := by omega
      have h := Any2.slices_Insert_int_end_room Try.laysNm221 p off l.length c w.heap.size 0 1 1 [.int .i64 z] X (by omega) room h63 rfl
        (fun j hj => by rw [Nat.add_assoc]; exact (hm.room (l.length + j) (by show l.length + j < c * 1; omega)).1) (fun j hj => by rw [Nat.add_assoc]; exact (hm.room (l.length + j) (by show l.length + j < c * 1; omega)).2) hvs h1v
      refine (show Calls Try.prog 74 _ _ _ from h).mono ?_
      rintro e w' ⟨rfl, rfl⟩
      have q2 := qm_over hm l.length [z] (Nat.le_refl _) (by simp; omega)
      have e2 : l.take l.length ++ [z] ++ l.drop (l.length + [z].length) = insAt l l.length z := by
        unfold insAt
        have d0 : l.drop (l.length + [z].length) = [] := List.drop_eq_nil_of_le (by simp)
        rw [d0, List.append_nil, List.drop_length]
      rw [e2] at q2
      exact ⟨_, rfl, ⟨_, c, by rw [insAt_len l _ z hi], by rw [insAt_len l _ z hi]; exact room, h2, .inr ⟨p, off, rfl, hBp, q2⟩⟩, zkept_setCells hBp _ _ _ hK1⟩
  · by_cases lt : i < l.length
    · rcases h3 with ⟨_, hc0⟩ | ⟨p, off, rfl, hBp, hm⟩
      · omega
      have h := Any2.slices_Insert_int_grow Try.laysNm221 p off l.length c i w.heap.size 0 1 1 (l.map (Value.int .i64)) [.int .i64 z] X lt (by omega) h1 (by omega) (by omega) hcl rfl (fun j u hj => hm.row.c j u (by rw [catI]; exact hj)) hvs h1c h1v
      refine (show Calls Try.prog 74 _ _ _ from h).mono ?_
      rintro e w' ⟨rfl, rfl⟩
      have tl : ((l.map (Value.int .i64)).take i).length = i := by rw [List.length_take, hcl]; omega
      generalize hrow : ((l.map (Value.int .i64)).take i).toArray ++ Builtin.zeroCells (Value.int .i64 0).cells (l.length + 1 - i) ++ Builtin.zeroCells (Value.int .i64 0).cells (grownCap X (l.length + 1) c (Try.laysNm221_ren.t 3) - (l.length + 1)) = row
      have rs : grownCap X (l.length + 1) c (Try.laysNm221_ren.t 3) ≤ row.size := by
        rw [← hrow]; simp only [Array.size_append, List.size_toArray, tl, size_zeroCells]
        have : (Value.int .i64 0).cells.size = 1 := rfl
        rw [this]; omega
      have q0 : QMem eI (X.alloc (.cells row (Try.laysNm221_ren.t 3))) X.heap.size 0 (grownCap X (l.length + 1) c (Try.laysNm221_ren.t 3)) (l.take i) := qm_new (fun j u hj => by
        have hj' : j < i := by
          have := (List.getElem?_eq_some_iff.1 hj).1
          rw [List.length_map, List.length_take] at this; omega
        rw [← hrow, Array.getElem?_append_left (by simp [tl]; omega), Array.getElem?_append_left (by simp [tl]; omega)]
        simp only [List.getElem?_toArray]
        rw [← List.map_take]; exact hj) rs
      have q1 := qm_over q0.drewq i [z] (by rw [List.length_take]; omega) (by simp; omega)
      have e1 : (l.take i).take i ++ [z] ++ (l.take i).drop (i + [z].length) = l.take i ++ [z] := by
        have d0 : (l.take i).drop (i + [z].length) = [] := List.drop_eq_nil_of_le (by rw [List.length_take]; simp; omega)
        rw [List.take_take, Nat.min_self, d0, List.append_nil]
      rw [e1] at q1
      have q2 := qm_over q1.drewq (i + 1) (l.drop i) (by simp; omega) (by rw [List.length_drop]; omega)
      have e2 : (l.take i ++ [z]).take (i + 1) ++ l.drop i ++ (l.take i ++ [z]).drop (i + 1 + (l.drop i).length) = insAt l i z := by
        unfold insAt
        have t2 : (l.take i ++ [z]).length = i + 1 := by rw [List.length_append, List.length_take]; simp; omega
        have d0 : (l.take i ++ [z]).drop (i + 1 + (l.drop i).length) = [] := List.drop_eq_nil_of_le (by rw [t2]; omega)
        rw [List.take_of_length_le (by omega), d0, List.append_nil, List.append_assoc]; rfl
      rw [e2, List.map_drop] at q2
      refine ⟨_, rfl, ⟨_, _, by rw [insAt_len l i z hi], by rw [insAt_len l i z hi]; exact gk, gm, .inr ⟨X.heap.size, 0, rfl, BX, ?_⟩⟩, ?_⟩
      · simpa using q2
      · exact zkept_setCells BX _ _ _ (Kept.drew (zkept_setCells BX _ _ _ (hK1.alloc _).drew))
    · obtain rfl : i = l.length := by omega
      have h := Any2.slices_Insert_int_end_grow Try.laysNm221 a l.length c w.heap.size 0 1 1 (l.map (Value.int .i64)) [.int .i64 z] X (by omega) h1 (by omega) (by omega) hcl rfl (fun e => by
          rcases h3 with ⟨_, hc0⟩ | ⟨p, off, e2, _⟩
          · omega
          · rw [e] at e2; cases e2) (fun ad e j u hj => by
          rcases h3 with ⟨e2, _⟩ | ⟨p, off, e2, _, hm⟩
          · rw [e] at e2; cases e2
          · rw [e] at e2
            obtain rfl : ad = ⟨p, off, none⟩ := by simpa using e2
            rw [add_plain]
            exact hm.row.c j u (by rw [catI]; exact hj)) hvs h1v
      refine (show Calls Try.prog 74 _ _ _ from h).mono ?_
      rintro e w' ⟨rfl, rfl⟩
      have e2 : l ++ [z] = insAt l l.length z := by unfold insAt; rw [List.take_length, List.drop_length]
      refine ⟨_, rfl, ⟨_, _, by rw [insAt_len l _ z hi], by rw [insAt_len l _ z hi]; exact gk, gm, .inr ⟨X.heap.size, 0, rfl, BX, ?_⟩⟩, ?_⟩
      · rw [← e2]
        refine qm_new (w := X.drew) (fun j u hj => ?_) ?_
        · have hj' : j < l.length + 1 := by
            have := (List.getElem?_eq_some_iff.1 hj).1
            simpa using this
          rw [Array.getElem?_append_left (by simp; omega)]
          simp only [List.getElem?_toArray]
          rw [List.map_append] at hj
          exact hj
        · rw [Array.size_append, size_zeroCells]
          have : (Value.int .i64 0).cells.size = 1 := rfl
          simp only [List.size_toArray, List.length_append, hcl, this, List.length_singleton]
          omega
      · exact hK1.drew.alloc _
end Go.Proofs.Ytdgiljndoeldcaa
