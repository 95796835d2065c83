/-
  What the library's slices.Insert returns at a full row of entries: a new row with one entry more. No condition but those that the theorem names.
-/
import Derived.Test.YtdgiljndoeldcaaHWalkA
import Derived.Shelf.Spec.SlicesInsert
import Derived.Lib.AppendZerosOnto
import Derived.Laws.NewBlocks
namespace Go.Proofs.Ytdgiljndoeldcaa
open Go.RowKit Go.Lib
set_option linter.unusedVariables false
set_option linter.unusedSimpArgs false

/-- A new row. -/
def InsPost (w : World) (m : Nat) (ds : List Value) (e : Ending) (w' : World) : Prop :=
  ∃ p c, w.heap.size ≤ p ∧ e = .returned (.slice (some ⟨p, 0, none⟩) m c) ∧ m ≤ c ∧ c ≤ maxLen ∧ p < w'.heap.size ∧ (∀ j v, ds[j]? = some v → w'.cell? ⟨p, j, none⟩ = some v) ∧ Kept w w'
theorem Kept.grown {w w' : World} (h : w.grownBy w' Option.none) : Kept w w' := Below.grown (Kept.refl w) h (Nat.le_refl _) (fun j e => by cases e)
set_option maxHeartbeats 4000000 in
set_option maxRecDepth 100000 in
theorem insert_end (g n vb : Nat) (cs vs : List Value) (w : World) (hn : n ≤ 60) (hcl : cs.length = n * 3) (hvl : vs.length = 3)
    (hcs : ∀ j v, cs[j]? = some v → w.cell? ⟨g, j, none⟩ = some v) (hvs : ∀ j v, vs[j]? = some v → w.cell? ⟨vb, j, none⟩ = some v) (h1v : ∀ v ∈ vs, v.oneCell' = true) :
    Calls Try.prog 63 #[.slice (some ⟨g, 0, none⟩) n n, .int .i64 n, .slice (some ⟨vb, 0, none⟩) 1 1] w (InsPost w (n + 1) (cs ++ vs)) := by
  obtain ⟨i0, hi0, hz0, hzs, hzb⟩ := info_parts infoEntry
  have HC := Lib.hid hcs
  have HV := Lib.hid hvs
  have hcl' := Lib.hid hcl
  have hvl' := Lib.hid hvl
  have h1v' := Lib.hid h1v
  clear hcs hvs hcl hvl h1v
  have hm : n + 1 ≤ maxLen := by unfold maxLen; omega
  go_enter Try.func63, Try.ntmps63
  go_wp2_with (at_builtin; refine wpList_append_grows _ rfl _ _ 56 rfl 64 i0 _ 3 48 Try.underlying56 hi0 hz0 hzs hzb rfl (by decide) (some ⟨g, 0, none⟩) n n cs rfl (fun h => by cases h) hcl'.out (fun b hb j u hj => by cases hb; rw [Addr.add_lit, Nat.zero_add]; exact HC.out j u hj) ⟨vb, 0, none⟩ 1 1 vs rfl (by rw [hvl'.out]) (fun j u hj => by rw [Addr.add_lit, Nat.zero_add]; exact HV.out j u hj) h1v'.out (by omega) hm (by omega) ?_)
  intro v' w' hO hG
  obtain ⟨hlen, (⟨_, h0⟩ | ⟨p, c, cur, rfl, hp, hh, hc1, hc2, hsz, htk⟩)⟩ := id hO
  · omega
  · have hcell := Lib.hid (show ∀ j v, (cs ++ vs)[j]? = some v → w'.cell? ⟨p, j, none⟩ = some v from fun j v hj => by
      rw [hO.cellAt j (by have := (List.getElem?_eq_some_iff.1 hj).1; omega)]; exact hj)
    have plt := (Array.getElem?_eq_some_iff.1 hh).1
    have hK := Kept.grown hG
    clear hO hG hh htk hlen
    go_wp2
    go_ret
    exact ⟨p, c, hp, rfl, hc1, hc2, plt, hcell.out, hK⟩
theorem splice_cells {W1 : World} {N i : Nat} {vs ds : List Value} {c1 : List Value} (j : Nat) (v : Value) (hN : ∀ t, t < c1.length + vs.length + ds.length → (W1.cell? ⟨N, t, none⟩).isSome = true)
    (hc : ∀ t u, c1[t]? = some u → W1.cell? ⟨N, t, none⟩ = some u) (hi : c1.length = i) (hj : (c1 ++ vs ++ ds)[j]? = some v) : ((W1.setCells N i vs).setCells N (i + vs.length) ds).cell? ⟨N, j, none⟩ = some v := by
  have hlt := (List.getElem?_eq_some_iff.1 hj).1
  simp only [List.length_append] at hlt
  by_cases h1 : j < i
  · rw [World.cell?_setCells_out _ _ _ _ _ (fun _ _ => .inl (by simp; omega)), World.cell?_setCells_out _ _ _ _ _ (fun _ _ => .inl (by simpa using h1))]
    rw [List.append_assoc, List.getElem?_append_left (by omega)] at hj
    exact hc j v hj
  · by_cases h2 : j < i + vs.length
    · rw [World.cell?_setCells_out _ _ _ _ _ (fun _ _ => .inl (by simpa using h2))]
      have := World.cell?_setCells_in N vs i W1 (fun t ht => hN _ (by omega)) (j - i) (by omega)
      rw [show i + (j - i) = j by omega] at this
      rw [this]
      rw [List.getElem?_append_left (by simp; omega), List.getElem?_append_right (by omega), hi] at hj
      rw [List.getElem?_eq_getElem (by omega)] at hj
      exact hj
    · have := World.cell?_setCells_in N ds (i + vs.length) (W1.setCells N i vs) (fun t ht => isSome_setCells _ _ _ _ (fun u hu => hN _ (by omega)) _ (hN _ (by omega))) (j - (i + vs.length)) (by omega)
      rw [show i + vs.length + (j - (i + vs.length)) = j by omega] at this
      rw [this]
      rw [List.getElem?_append_right (by simp; omega)] at hj
      simp only [List.length_append, hi] at hj
      rw [List.getElem?_eq_getElem (by omega)] at hj
      exact hj
theorem drew_setCells (g : Nat) : ∀ (vs : List Value) (o : Nat) (w : World), w.drew.setCells g o vs = (w.setCells g o vs).drew
  | [], _, _ => rfl
  | v :: r, o, w => by rw [World.setCells, World.setCells, show w.drew.setCell ⟨g, o, none⟩ v = (w.setCell ⟨g, o, none⟩ v).drew from rfl, drew_setCells g r]
theorem mixedOk : Try.prog.follows Departure.mixedOrders = true := by kernel_rfl
set_option maxHeartbeats 8000000 in
set_option maxRecDepth 100000 in
theorem insert_mid (g n i vb : Nat) (cs vs : List Value) (w : World) (hi : i < n) (hn : n ≤ 60) (hcl : cs.length = n * 3) (hvl : vs.length = 3)
    (hcs : ∀ j v, cs[j]? = some v → w.cell? ⟨g, j, none⟩ = some v) (hvs : ∀ j v, vs[j]? = some v → w.cell? ⟨vb, j, none⟩ = some v) (h1c : ∀ v ∈ cs, v.oneCell' = true) (h1v : ∀ v ∈ vs, v.oneCell' = true) (hbw : g < w.heap.size) (hvw : vb < w.heap.size) :
    Calls Try.prog 63 #[.slice (some ⟨g, 0, none⟩) n n, .int .i64 i, .slice (some ⟨vb, 0, none⟩) 1 1] w (InsPost w (n + 1) (cs.take (i * 3) ++ vs ++ cs.drop (i * 3))) := by
  obtain ⟨i0, hi0, hz0, hzs, hzb⟩ := info_parts infoEntry
  have hz2 : ¬ ((i : Int) = (n : Int)) := by omega
  have hz3 : (n : Int) < (n : Int) + 1 := by omega
  have hsz : (Try.prog.info? 64).map (·.size) = some 3 := by rw [hi0]; simp [hzs]
  have hkk : (n : Int) + 1 - (i : Int) = ((n + 1 - i : Nat) : Int) := by omega
  have hik : i + (n + 1 - i) = n + 1 := by omega
  have htl : (cs.take (i * 3)).length = i * 3 := by rw [List.length_take, hcl]; omega
  have hold : (Builtin.firstCells i0.size i (.slice (some ⟨g, 0, none⟩) i n)).run Try.prog w.drew = .ok (cs.take (i * 3)).toArray w.drew := by
    rw [hzs]
    exact run_firstCells_some w.drew 3 i ⟨g, 0, none⟩ i n (cs.take (i * 3)) htl (fun j v hj => by
      rw [Addr.add_lit, Nat.zero_add]
      rw [List.getElem?_take] at hj
      split at hj
      · exact hcs j v hj
      · cases hj)
  obtain ⟨G, hG⟩ : ∃ G, G = grownCap w (n + 1) n 64 := ⟨_, rfl⟩
  obtain ⟨ROW, hROW⟩ : ∃ ROW : Array Value, ROW = (cs.take (i * 3)).toArray ++ Builtin.zeroCells (Value.agg #[.string ⟨#[]⟩, .int .i64 0, .slice none 0 0]).cells (n + 1 - i) ++ Builtin.zeroCells (Value.agg #[.string ⟨#[]⟩, .int .i64 0, .slice none 0 0]).cells (G - (n + 1)) := ⟨_, rfl⟩
  have hrz : ∀ ty, (Builtin.append_ #[56, 3] ty #[.slice (some ⟨g, 0, none⟩) i n, .int .i64 ((n : Int) + 1 - (i : Int))]).run Try.prog w =
      .ok (.slice (some ⟨w.heap.size, 0, none⟩) (n + 1) G) (w.drew.alloc (.cells ROW 64)) := fun ty => by
    have h := Lib.run_append_grow_zeros w 56 3 ty 64 i0 _ .i64 .i64 Try.underlying56 Try.underlying3 hi0 hz0 (some ⟨g, 0, none⟩) i n (cs.take (i * 3)) hold (n + 1 - i) (by omega) (by omega) (by omega) (by omega) (by rw [hzb]; omega) (by rw [hzb, hik]; exact growslice_fits (by omega) (by omega))
    rw [hik] at h
    rw [hkk, hROW, hG]
    exact h
  have hRl : (n + 1) * 3 ≤ ROW.size := by
    rw [hROW]
    simp [Builtin.zeroCells, Value.cells]
    omega
  have hRt : ∀ t u, (cs.take (i * 3))[t]? = some u → ROW[t]? = some u := fun t u h => by
    have hlt := (List.getElem?_eq_some_iff.1 h).1
    rw [hROW, Array.append_assoc, Array.getElem?_append_left (by simpa using hlt)]
    simpa using h
  obtain ⟨W1, hW1⟩ : ∃ W1, W1 = w.drew.alloc (.cells ROW 64) := ⟨_, rfl⟩
  rw [← hW1] at hrz
  have hN : ∀ j, j < (n + 1) * 3 → (W1.cell? ⟨w.heap.size, j, none⟩).isSome = true := fun j hj => by
    rw [hW1, World.cell?_alloc_at (w := w.drew) ROW _ w.heap.size j rfl, Array.getElem?_eq_getElem (by omega)]; rfl
  have hNc : ∀ t u, (cs.take (i * 3))[t]? = some u → W1.cell? ⟨w.heap.size, t, none⟩ = some u := fun t u h => by
    rw [hW1, World.cell?_alloc_at (w := w.drew) ROW _ w.heap.size t rfl]; exact hRt t u h
  have hNf : ∀ j, W1.frozen? ⟨w.heap.size, j, none⟩ = false := fun j => by rw [hW1]; exact World.frozen?_alloc_at (w := w.drew) ROW _ w.heap.size j rfl
  have hOb : ∀ j v, w.cell? ⟨g, j, none⟩ = some v → W1.cell? ⟨g, j, none⟩ = some v := fun j v h => by rw [hW1, World.cell?_alloc_past (w := w.drew) _ g j hbw]; exact h
  have hOv : ∀ j v, w.cell? ⟨vb, j, none⟩ = some v → W1.cell? ⟨vb, j, none⟩ = some v := fun j v h => by rw [hW1, World.cell?_alloc_past (w := w.drew) _ vb j hvw]; exact h
  have hcpA : ∀ (W : World), (∀ x, W.cell? x = W1.cell? x) → (∀ x, W.frozen? x = W1.frozen? x) → ∀ ty dc, (Builtin.copy_ #[56, 56] ty #[.slice (some ⟨w.heap.size, i * 3, none⟩) (n + 1 - i) dc, .slice (some ⟨vb, 0, none⟩) 1 1]).run Try.prog W = .ok (goInt 1) (W.setCells w.heap.size (i * 3) vs) := fun W hWc hWf ty dc => by
    have h := run_copy_cellsK (P := Try.prog) W 56 56 ty 64 w.heap.size (i * 3) (n + 1 - i) dc ⟨vb, 0, none⟩ 1 1 vs 3 Try.underlying56 hsz (by rw [hvl, show Nat.min 1 (n + 1 - i) = 1 from Nat.min_eq_left (by omega)])
      (fun j v hj => by rw [Addr.add_lit, hWc, Nat.zero_add]; exact hOv _ v (hvs j v hj))
      (fun j hj => by rw [hWc]; exact hN _ (by omega)) (fun j hj => by rw [hWf]; exact hNf _) h1v
    rw [show Nat.min 1 (n + 1 - i) = 1 from Nat.min_eq_left (by omega)] at h
    exact h
  have hGn : n + 1 ≤ G := by rw [hG]; exact grownCap_ge w _ _ _
  have hGm : G ≤ maxLen := by rw [hG]; exact grownCap_le_maxLen w (n + 1) n 64 (by unfold maxLen; omega)
  have hG63 : G ≤ 9223372036854775807 := by have := hGm; unfold maxLen at this; omega
  have hGi : ¬ (G = i) := by omega
  have hGim : ¬ (G = i + 1) := by omega
  have hci : ¬ (n = i) := by omega
  have hbN : g ≠ w.heap.size := by omega
  have hdl : (cs.drop (i * 3)).length = (n - i) * 3 := by rw [List.length_drop, hcl]; omega
  have hcpB : ∀ (W : World), (∀ x, W.cell? x = (W1.setCells w.heap.size (i * 3) vs).cell? x) → (∀ x, W.frozen? x = (W1.setCells w.heap.size (i * 3) vs).frozen? x) → ∀ ty dc sc, (Builtin.copy_ #[56, 56] ty #[.slice (some ⟨w.heap.size, (i + 1) * 3, none⟩) (n + 1 - (i + 1)) dc, .slice (some ⟨g, i * 3, none⟩) (n - i) sc]).run Try.prog W = .ok (goInt (n - i : Nat)) (W.setCells w.heap.size (i * 3 + vs.length) (cs.drop (i * 3))) := fun W hWc hWf ty dc sc => by
    have h := run_copy_cellsK (P := Try.prog) W 56 56 ty 64 w.heap.size ((i + 1) * 3) (n + 1 - (i + 1)) dc ⟨g, i * 3, none⟩ (n - i) sc (cs.drop (i * 3)) 3 Try.underlying56 hsz (by rw [hdl, show Nat.min (n - i) (n + 1 - (i + 1)) = n - i from Nat.min_eq_left (by omega)])
      (fun j v hj => by
        rw [Addr.add_lit, hWc, World.cell?_setCells_out _ _ _ _ _ (fun h _ => absurd h hbN)]
        exact hOb _ v (hcs (i * 3 + j) v (by rwa [List.getElem?_drop] at hj)))
      (fun j hj => by rw [hWc]; exact isSome_setCells _ _ _ _ (fun t ht => hN _ (by omega)) _ (hN _ (by omega)))
      (fun j hj => by rw [hWf, World.frozen?_setCells]; exact hNf _) (fun v hv => h1c v (List.mem_of_mem_drop hv))
    rw [show Nat.min (n - i) (n + 1 - (i + 1)) = n - i from Nat.min_eq_left (by omega), show (i + 1) * 3 = i * 3 + vs.length by omega] at h
    rw [show (i + 1) * 3 = i * 3 + vs.length by omega]
    exact h
  have FIN := Lib.hid (show ∀ j v, (cs.take (i * 3) ++ vs ++ cs.drop (i * 3))[j]? = some v → ((W1.setCells w.heap.size (i * 3) vs).setCells w.heap.size (i * 3 + vs.length) (cs.drop (i * 3))).cell? ⟨w.heap.size, j, none⟩ = some v from
    fun j v hj => splice_cells j v (fun t ht => hN t (by omega)) hNc htl hj)
  have FK := Lib.hid (show Kept w ((W1.setCells w.heap.size (i * 3) vs).setCells w.heap.size (i * 3 + vs.length) (cs.drop (i * 3))) from
    Kept.setCells (w := w) _ _ (Kept.setCells (w := w) _ _ (by rw [hW1]; exact (Kept.refl w).drew.alloc _) (Nat.le_refl _)) (Nat.le_refl _))
  have FS := Lib.hid (show w.heap.size < W1.heap.size by rw [hW1]; simp)
  subst hW1
  have hE1 : ∀ x, ((w.alloc (.cells ROW 64)).drew).cell? x = (w.drew.alloc (.cells ROW 64)).cell? x := fun x => rfl
  have hE2 : ∀ x, ((w.alloc (.cells ROW 64)).drew).frozen? x = (w.drew.alloc (.cells ROW 64)).frozen? x := fun x => rfl
  have hF1 : ∀ x, (((w.alloc (.cells ROW 64)).drew.setCells w.heap.size (i * 3) vs).drew).cell? x = ((w.drew.alloc (.cells ROW 64)).setCells w.heap.size (i * 3) vs).cell? x := fun x => rfl
  have hF2 : ∀ x, (((w.alloc (.cells ROW 64)).drew.setCells w.heap.size (i * 3) vs).drew).frozen? x = ((w.drew.alloc (.cells ROW 64)).setCells w.heap.size (i * 3) vs).frozen? x := fun x => rfl
  have mixed := mixedOk
  have DR := Lib.hid (show ((w.alloc (.cells ROW 64)).drew.setCells w.heap.size (i * 3) vs).drew.setCells w.heap.size (i * 3 + vs.length) (cs.drop (i * 3)) = (((w.drew.alloc (.cells ROW 64)).setCells w.heap.size (i * 3) vs).setCells w.heap.size (i * 3 + vs.length) (cs.drop (i * 3))).drew by rw [drew_setCells]; rfl)
  have hw1 : IntKind.i64.wrap ((i : Int) + 1) = (i : Int) + 1 := by rw [IntKind.wrap_i64]; omega
  have hb1 : (0 : Int) ≤ (i : Int) + 1 := by omega
  have hin : i ≤ n := by omega
  have htn : ((i : Int) + 1).toNat = i + 1 := by omega
  have hb3 : (i : Int) ≤ (n : Int) := by omega
  have hvl' := Lib.hid hvl
  clear hkk hik hold hROW hG hRl hRt hN hNc hNf hOb hOv hcl htl hdl hcs hvs hvl
  go_enter Try.func63, Try.ntmps63
  go_wp2_with (first
    | (at_builtin; refine Lib.wpList_append_run _ rfl _ _ _ _ rfl _ _ rfl rfl _ _ (hrz _) ?_)
    | (refine wpList_copy_runI _ rfl _ _ 56 56 rfl _ _ rfl rfl (hcpA _ hE1 hE2 _ _) ?_))
  go_region_law_o (refine step_copy_runI rfl _ _ 56 56 rfl (.slice (some ⟨w.heap.size, (i + 1) * 3, none⟩) (n + 1 - (i + 1)) (G - (i + 1))) (.slice (some ⟨g, i * 3, none⟩) (n - i) (n - i)) (by simp [Act.eval, Act.put]) (by simp [Act.eval, Act.put]) (hcpB _ hF1 hF2 3 (G - (i + 1)) (n - i)) ?_)
  go_wp2
  go_ret
  exact ⟨w.heap.size, G, Nat.le_refl _, rfl, hGn, hGm, by rw [size_setCells]; simp [size_setCells], fun j v hj => by rw [DR.out]; exact FIN.out j v hj, by rw [DR.out]; exact FK.out.drew⟩
/-- slices.Insert at a full row of entries. -/
theorem insert_any (g n i vb : Nat) (cs vs : List Value) (w : World) (hi : i ≤ n) (hn : n ≤ 60) (hcl : cs.length = n * 3) (hvl : vs.length = 3)
    (hcs : ∀ j v, cs[j]? = some v → w.cell? ⟨g, j, none⟩ = some v) (hvs : ∀ j v, vs[j]? = some v → w.cell? ⟨vb, j, none⟩ = some v) (h1c : ∀ v ∈ cs, v.oneCell' = true) (h1v : ∀ v ∈ vs, v.oneCell' = true) (hbw : g < w.heap.size) (hvw : vb < w.heap.size) :
    Calls Try.prog 63 #[.slice (some ⟨g, 0, none⟩) n n, .int .i64 i, .slice (some ⟨vb, 0, none⟩) 1 1] w (InsPost w (n + 1) (cs.take (i * 3) ++ vs ++ cs.drop (i * 3))) := by
  by_cases h : i = n
  · subst h
    rw [List.take_of_length_le (by omega), List.drop_of_length_le (by omega), List.append_nil]
    exact insert_end g i vb cs vs w hn hcl hvl hcs hvs h1v
  · exact insert_mid g n i vb cs vs w (by omega) hn hcl hvl hcs hvs h1c h1v hbw hvw
end Go.Proofs.Ytdgiljndoeldcaa
