/-
  slices.Insert of one number into a row of the call's own, and slices.Delete of one number of it: the library's contracts, said of rows. No condition but those that each theorem names.
-/
import Derived.Test.YtcelkgbpgpgpjaaNWalkB
import Derived.Test.YtcelkgbpgpgpjaaDGrow
import Derived.Test.YtcelkgbpgpgpjaaNShelf
namespace Go.Proofs.Ytcelkgbpgpgpjaa
open Go.RowKit Go.WideShapes Go.Sort

theorem Kept.setCells {a : World} {b : Nat} (hb : a.heap.size ≤ b) : ∀ (vs : List Value) (o : Nat) (w : World), Kept a w → Kept a (w.setCells b o vs)
  | [], _, _, h => h
  | v :: r, o, _, h => Kept.setCells hb r (o + 1) _ (h.setAt hb v)
theorem setCells_size (b : Nat) : ∀ (vs : List Value) (o : Nat) (w : World), (w.setCells b o vs).heap.size = w.heap.size
  | [], _, _ => rfl
  | v :: r, o, w => by
    show ((w.setCell ⟨b, o, none⟩ v).setCells b (o + 1) r).heap.size = _
    rw [setCells_size b r]; simp
/-- One number laid between others. -/
def insG (g : Nat → Int) (i : Nat) (k : Int) : Nat → Int := fun j => if j < i then g j else if j = i then k else g (j - 1)
/-- One number taken out. -/
def delG (g : Nat → Int) (i : Nat) : Nat → Int := fun j => if j < i then g j else g (j + 1)
/-- The cells from i on, moved up by one. -/
theorem drop_get (n i : Nat) (g : Nat → Int) (j : Nat) (h : j < (((tab n g).map (Value.int .i64)).drop i).length) : (((tab n g).map (Value.int .i64)).drop i)[j] = .int .i64 (g (i + j)) := by
  rw [List.getElem_drop, List.getElem_map, tab_get]
theorem drop_len (n i : Nat) (g : Nat → Int) : (((tab n g).map (Value.int .i64)).drop i).length = n - i := by
  rw [List.length_drop, List.length_map, tab_len]
theorem own_shift (w : World) (q n i : Nat) (g : Nat → Int) (z : Int) (hi : i < n) (lt : q < w.heap.size) (hc : ∀ j, j < i → w.cell? ⟨q, j, none⟩ = some (.int .i64 (g j)))
    (hs : ∀ j, j < n + 1 → (w.cell? ⟨q, j, none⟩).isSome = true) (hf : ∀ j, j < n + 1 → w.frozen? ⟨q, j, none⟩ = false) :
    Own ((w.setCells q (i + 1) (((tab n g).map (Value.int .i64)).drop i)).setCells q i [.int .i64 z]) q (tab (n + 1) (insG g i z)) := by
  have dl := drop_len n i g
  refine ⟨by rw [setCells_size, setCells_size]; exact lt, fun j hj => ?_, fun j hj => ?_⟩
  · rw [tab_len] at hj
    rw [tab_get]
    unfold insG
    by_cases c1 : j < i
    · rw [if_pos c1, World.cell?_setCells_out q _ _ _ _ (fun _ _ => by left; exact c1), World.cell?_setCells_out q _ _ _ _ (fun _ _ => by left; show j < i + 1; omega)]
      exact hc j c1
    · rw [if_neg c1]
      by_cases c2 : j = i
      · subst c2
        rw [if_pos rfl]
        have := World.cell?_setCells_in q [.int .i64 z] j (w.setCells q (j + 1) (((tab n g).map (Value.int .i64)).drop j)) (fun t ht => by
          have ht' : t = 0 := by simp at ht; omega
          subst ht'
          rw [World.cell?_setCells_out q _ _ _ _ (fun _ _ => by left; show j + 0 < j + 1; omega)]
          exact hs (j + 0) (by omega)) 0 (by simp)
        exact this
      · rw [if_neg c2, World.cell?_setCells_out q _ _ _ _ (fun _ _ => by right; show i + 1 ≤ j; omega)]
        have := World.cell?_setCells_in q (((tab n g).map (Value.int .i64)).drop i) (i + 1) w (fun t ht => hs _ (by rw [dl] at ht; omega)) (j - (i + 1)) (by rw [dl]; omega)
        rw [drop_get, show i + 1 + (j - (i + 1)) = j by omega, show i + (j - (i + 1)) = j - 1 by omega] at this
        exact this
  · rw [tab_len] at hj
    rw [World.frozen?_setCells, World.frozen?_setCells]
    exact hf j hj
theorem own_grown (w : World) (q n i : Nat) (g : Nat → Int) (z : Int) (hi : i < n) (lt : q < w.heap.size) (hc : ∀ j, j < i → w.cell? ⟨q, j, none⟩ = some (.int .i64 (g j)))
    (hs : ∀ j, j < n + 1 → (w.cell? ⟨q, j, none⟩).isSome = true) (hf : ∀ j, j < n + 1 → w.frozen? ⟨q, j, none⟩ = false) :
    Own (((w.setCells q i [.int .i64 z]).drew).setCells q (i + 1) (((tab n g).map (Value.int .i64)).drop i)) q (tab (n + 1) (insG g i z)) := by
  have dl := drop_len n i g
  have one : (w.setCells q i [.int .i64 z]).cell? ⟨q, i, none⟩ = some (.int .i64 z) := by
    have := World.cell?_setCells_in q [.int .i64 z] i w (fun t ht => hs _ (by simp at ht; omega)) 0 (by simp)
    exact this
  refine ⟨by rw [setCells_size]; show q < (w.setCells q i [.int .i64 z]).heap.size; rw [setCells_size]; exact lt, fun j hj => ?_, fun j hj => ?_⟩
  · rw [tab_len] at hj
    rw [tab_get]
    unfold insG
    by_cases c1 : j < i
    · rw [if_pos c1, World.cell?_setCells_out q _ _ _ _ (fun _ _ => by left; show j < i + 1; omega)]
      show (w.setCells q i [.int .i64 z]).cell? ⟨q, j, none⟩ = _
      rw [World.cell?_setCells_out q _ _ _ _ (fun _ _ => by left; exact c1)]
      exact hc j c1
    · rw [if_neg c1]
      by_cases c2 : j = i
      · subst c2
        rw [if_pos rfl, World.cell?_setCells_out q _ _ _ _ (fun _ _ => by left; show j < j + 1; omega)]
        exact one
      · rw [if_neg c2]
        have := World.cell?_setCells_in q (((tab n g).map (Value.int .i64)).drop i) (i + 1) (w.setCells q i [.int .i64 z]).drew (fun t ht => by
          rw [dl] at ht
          show ((w.setCells q i [.int .i64 z]).cell? ⟨q, i + 1 + t, none⟩).isSome = true
          rw [World.cell?_setCells_out q _ _ _ _ (fun _ _ => by right; show i + 1 ≤ i + 1 + t; omega)]
          exact hs _ (by omega)) (j - (i + 1)) (by rw [dl]; omega)
        rw [drop_get, show i + 1 + (j - (i + 1)) = j by omega, show i + (j - (i + 1)) = j - 1 by omega] at this
        exact this
  · rw [tab_len] at hj
    rw [World.frozen?_setCells]
    show (w.setCells q i [.int .i64 z]).frozen? ⟨q, j, none⟩ = false
    rw [World.frozen?_setCells]
    exact hf j hj

/-- What Insert returns. -/
def InsPost (B : World) (n : Nat) (g : Nat → Int) (e : Ending) (w' : World) : Prop :=
  ∃ q c : Nat, B.heap.size ≤ q ∧ e = .returned (.slice (some ⟨q, 0, none⟩) (n + 1) c) ∧ Own w' q (tab (n + 1) g) ∧ Kept B w'
theorem one_cells (l : List Int) : ∀ u ∈ l.map (Value.int .i64), u.oneCell' = true := by
  intro u hu
  rw [List.mem_map] at hu
  obtain ⟨z, _, rfl⟩ := hu
  rfl
set_option maxHeartbeats 1000000 in
theorem insert_any (q c n i : Nat) (z : Int) (g : Nat → Int) (w B : World) (hG : Gr B.heap.size w (.slice (some ⟨q, 0, none⟩) n c) n g) (hK : Kept B w) (hi : i < n) (hn : n ≤ 1000) :
    Calls Try.prog 23 #[.slice (some ⟨q, 0, none⟩) n c, .int .i64 (i : Int), .slice (some ⟨w.heap.size, 0, none⟩) 1 1] (w.alloc (.cells #[.int .i64 z] 3)) (InsPost B n (insG g i z)) := by
  have hG1 := hG.alloc (.cells #[.int .i64 z] 3)
  have hO1 := hG1.toOwn
  have hK1 := hK.alloc (.cells #[.int .i64 z] 3)
  have hq : q < w.heap.size := (hG.own.lt q rfl).2
  have hBq : B.heap.size ≤ q := (hG.own.lt q rfl).1
  have hv : (w.alloc (.cells #[.int .i64 z] 3)).cell? ⟨w.heap.size, 0, none⟩ = some (.int .i64 z) := by simp
  rcases hG1.own.2 with ⟨e, _⟩ | ⟨b, cap, cur, e, hb, hh, hnc, hcm, hcs, ht⟩
  · cases e
  simp only [Value.slice.injEq, Option.some.injEq, Addr.mk.injEq, and_true, true_and] at e
  obtain ⟨rfl, rfl⟩ := e
  have hcl : ((tab n g).map (Value.int .i64)).length = n := by rw [List.length_map, tab_len]
  have hc : ∀ (j : Nat) (v : Value), ((tab n g).map (Value.int .i64))[j]? = some v → (w.alloc (.cells #[.int .i64 z] 3)).cell? ⟨q, 0 + j, none⟩ = some v := by
    intro j v hj
    have hl : j < (tab n g).length := by
      rw [List.getElem?_eq_some_iff] at hj; obtain ⟨x, _⟩ := hj; simpa using x
    rw [List.getElem?_map, List.getElem?_eq_getElem hl] at hj
    rw [Nat.zero_add, hO1.cell j hl]
    exact hj
  have hvs : ∀ (j : Nat) (v : Value), [Value.int .i64 z][j]? = some v → (w.alloc (.cells #[.int .i64 z] 3)).cell? ⟨w.heap.size, 0 + j, none⟩ = some v := by
    intro j v hj
    match j, hj with
    | 0, hj => simp at hj; subst hj; exact hv
  have h1v : ∀ v ∈ [Value.int .i64 z], v.oneCell' = true := one_cells [z]
  by_cases room : n + 1 ≤ c
  · have hsp : ∀ j, j < n + 1 → ((w.alloc (.cells #[.int .i64 z] 3)).cell? ⟨q, j, none⟩).isSome = true := by
      intro j hj
      rw [cell_of_row _ q j cur _ _ hh, Array.getElem?_eq_getElem (by omega)]; rfl
    have hfz : ∀ j, j < n + 1 → (w.alloc (.cells #[.int .i64 z] 3)).frozen? ⟨q, j, none⟩ = false := fun j _ => hG1.own.frozenAt j
    have h := Any2.slices_Insert_int_shift Try.laysNm221 q 0 n c i w.heap.size 0 1 1 ((tab n g).map (Value.int .i64)) [.int .i64 z] (w.alloc (.cells #[.int .i64 z] 3)) hi (by omega) room (by unfold maxLen at hcm; omega) (by omega) hcl rfl hc
      (fun j hj => by rw [Nat.zero_add]; exact hsp j hj) (fun j hj => by rw [Nat.zero_add]; exact hfz j hj) hvs (one_cells _) h1v 3 3 1 cur.size (by simp only [World.shape?, heap_alloc_new]; rfl) (by simp only [World.shape?, hh]) (by omega) (by simp) (by simp)
    refine (show Calls Try.prog 23 _ _ _ from h).mono ?_
    rintro e w' ⟨rfl, rfl⟩
    rw [show (0 : Nat) + (i + 1) = i + 1 by omega, show (0 : Nat) + i = i by omega]
    refine ⟨q, c, hBq, rfl, ?_, ?_⟩
    · exact own_shift _ q n i g z hi (Nat.lt_of_lt_of_le hO1.lt (Nat.le_refl _)) (fun j hj => by
        have := hO1.cell j (by rw [tab_len]; omega)
        rw [tab_get] at this
        exact this) hsp hfz
    · exact Kept.setCells hBq _ _ _ (Kept.setCells hBq _ _ _ hK1.drew)
  · have h := Any2.slices_Insert_int_grow Try.laysNm221 q 0 n c i w.heap.size 0 1 1 ((tab n g).map (Value.int .i64)) [.int .i64 z] (w.alloc (.cells #[.int .i64 z] 3)) hi (by omega) hnc (by omega) (by omega) hcl rfl hc hvs (one_cells _) h1v
    refine (show Calls Try.prog 23 _ _ _ from h).mono ?_
    rintro e w' ⟨rfl, rfl⟩
    have tl : (((tab n g).map (Value.int .i64)).take i).length = i := by rw [List.length_take, hcl]; omega
    generalize hX : (w.alloc (.cells #[.int .i64 z] 3)) = X at *
    have hXs : X.heap.size = w.heap.size + 1 := by rw [← hX]; simp
    generalize hrow : (((tab n g).map (Value.int .i64)).take i).toArray ++ Builtin.zeroCells (Value.int .i64 0).cells (n + 1 - i) ++ Builtin.zeroCells (Value.int .i64 0).cells (grownCap X (n + 1) c (Try.laysNm221_ren.t 3) - (n + 1)) = row
    have rs : n + 1 ≤ row.size := by
      rw [← hrow]; simp only [Array.size_append, List.size_toArray, tl, size_zeroCells]
      have : (Value.int .i64 0).cells.size = 1 := rfl
      rw [this]; omega
    have BX : B.heap.size ≤ X.heap.size := by have := hK.le; omega
    refine ⟨X.heap.size, _, BX, rfl, ?_, ?_⟩
    · refine own_grown _ X.heap.size n i g z hi (by simp) (fun j hj => ?_) (fun j hj => ?_) (fun j hj => by simp)
      · show (X.alloc (.cells row _)).cell? ⟨X.heap.size, j, none⟩ = _
        rw [World.cell?_alloc_at row _ X.heap.size j rfl, ← hrow, Array.getElem?_append_left (by simp [tl]; omega), Array.getElem?_append_left (by simp [tl]; omega)]
        simp only [List.getElem?_toArray]
        rw [List.getElem?_take, if_pos hj, List.getElem?_map, List.getElem?_eq_getElem (by rw [tab_len]; omega), tab_get]
        rfl
      · show ((X.alloc (.cells row _)).cell? ⟨X.heap.size, j, none⟩).isSome = true
        rw [World.cell?_alloc_at row _ X.heap.size j rfl, Array.getElem?_eq_getElem (by omega)]; rfl
    · exact Kept.setCells BX _ _ _ (Kept.drew (Kept.setCells BX _ _ _ (hK1.alloc _).drew))

/-- What Delete of one number returns. -/
def DelPost (B w : World) (p m : Nat) (g : Nat → Int) (e : Ending) (w' : World) : Prop :=
  e = .returned (.slice (some ⟨p, 0, none⟩) (m - 1) m) ∧ Own w' p (tab (m - 1) g) ∧ Kept B w' ∧ ∀ (q off : Nat) (l : List Int), q ≠ p → Rd w q off l → Rd w' q off l
theorem del_len (l : List Int) (i : Nat) (h : i < l.length) : (l.take i ++ l.drop (i + 1) ++ List.replicate (i + 1 - i) (0 : Int)).length = l.length := by
  simp only [List.length_append, List.length_take, List.length_drop, List.length_replicate]; omega
theorem del_get (m i : Nat) (h : Nat → Int) (hi : i < m) (j : Nat) (hj : j < m - 1) (hl : j < ((tab m h).take i ++ (tab m h).drop (i + 1) ++ List.replicate (i + 1 - i) (0 : Int)).length) :
    ((tab m h).take i ++ (tab m h).drop (i + 1) ++ List.replicate (i + 1 - i) (0 : Int))[j] = delG h i j := by
  have tl : ((tab m h).take i).length = i := by rw [List.length_take, tab_len]; omega
  have dl : ((tab m h).drop (i + 1)).length = m - (i + 1) := by rw [List.length_drop, tab_len]
  rw [List.getElem_append_left (by rw [List.length_append, tl, dl]; omega)]
  unfold delG
  by_cases c : j < i
  · rw [if_pos c, List.getElem_append_left (by rw [tl]; exact c), List.getElem_take, tab_get]
  · rw [if_neg c, List.getElem_append_right (by rw [tl]; omega), List.getElem_drop, tab_get]
    congr 1
    rw [tl]; omega
set_option maxHeartbeats 1000000 in
theorem delete_any (p m i : Nat) (h : Nat → Int) (w B : World) (hO : Own w p (tab m h)) (hp : B.heap.size ≤ p) (hK : Kept B w) (hi : i < m) (hm : m ≤ 1000) :
    Calls Try.prog 25 #[.slice (some ⟨p, 0, none⟩) m m, .int .i64 (i : Int), .int .i64 ((i : Int) + 1)] w (DelPost B w p m (delG h i)) := by
  have hH : Holds (Value.int .i64) w p 0 (tab m h).toArray := by
    intro j hj
    have hj' : j < (tab m h).length := by simpa using hj
    refine ⟨?_, ?_⟩
    · rw [Nat.zero_add, hO.cell j hj', getElem!_pos _ j hj]; rfl
    · rw [Nat.zero_add]; exact hO.free j hj'
  have hc := Any.slices_Delete_int Try.laysNm223 p 0 m i (i + 1) (tab m h) w hH (by rw [tab_len]; exact Nat.le_refl _) (by omega) (by omega) (by rw [tab_len]; omega)
  rw [tab_len, show ((i + 1 : Nat) : Int) = (i : Int) + 1 by omega] at hc
  refine (show Calls Try.prog 25 _ _ _ from hc).mono ?_
  rintro e w' ⟨rfl, n, rfl⟩
  have dl := del_len (tab m h) i (by rw [tab_len]; exact hi)
  have hH2 := holds_putRow (Value.int .i64) (Sort.ahead w n) p 0 (tab m h).toArray ((tab m h).take i ++ (tab m h).drop (i + 1) ++ List.replicate (i + 1 - i) (0 : Int)).toArray (holds_ahead _ _ _ _ _ _ hH) (by rw [List.size_toArray, List.size_toArray]; exact dl)
  refine ⟨by rw [show m - (i + 1 - i) = m - 1 by omega], ⟨by rw [size_putRow]; exact hO.lt, fun j hj => ?_, fun j hj => ?_⟩, ?_, ?_⟩
  · rw [tab_len] at hj
    rw [tab_get]
    have hl : j < ((tab m h).take i ++ (tab m h).drop (i + 1) ++ List.replicate (i + 1 - i) (0 : Int)).length := by rw [dl, tab_len]; omega
    have := (hH2 j (by rw [List.size_toArray]; exact hl)).1
    rw [Nat.zero_add, getElem!_pos _ j (by rw [List.size_toArray]; exact hl), List.getElem_toArray, del_get m i h hi j hj hl] at this
    exact this
  · rw [tab_len] at hj
    rw [frozen?_putRow]
    exact hO.free j (by rw [tab_len]; omega)
  · refine ⟨hK.os, hK.tape, hK.output, by rw [size_putRow]; exact hK.size, ?_⟩
    intro k hk
    show (w.heap.modify p _)[k]? = _
    rw [Array.getElem?_modify, if_neg (by omega)]
    exact hK.block k hk
  · intro q off l hq hR
    refine ⟨by rw [size_putRow]; exact hR.lt, fun j hj => ?_⟩
    rw [cell?_putRow_other _ _ _ _ _ _ (.inl hq)]
    exact hR.cell j hj

end Go.Proofs.Ytcelkgbpgpgpjaa
