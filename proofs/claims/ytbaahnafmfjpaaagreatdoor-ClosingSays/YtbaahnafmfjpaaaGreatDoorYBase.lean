/-
  The row of entries that the reference sorts: where it lies, what the exchange of two places does to it, and what stays. No condition but those that each theorem names.
-/
import Derived.Test.YtbaahnafmfjpaaaGreatDoorMgBMath
import Derived.Test.YtbaahnafmfjpaaaGreatDoorYMath
import Derived.Lib.ReflectliteSwap
import Derived.Laws.Externs
namespace Go.Proofs.YtbaahnafmfjpaaaGreatDoor
open Go.RowKit
set_option linter.unusedVariables false

/-- The entries by their ranks. -/
structure En where
  k : Nat → ByteArray
  d : Nat → Int
  la : Nat → Option Addr
  ln : Nat → Nat
  lc : Nat → Nat
/-- An entry's lines. -/
def En.l (C : En) (x : Nat) : Value := .slice (C.la x) (C.ln x) (C.lc x)
/-- All but one block is as it was. -/
structure Turn (p : Nat) (w w' : World) : Prop where
  size : w.heap.size ≤ w'.heap.size
  cell : ∀ b o, b < w.heap.size → b ≠ p → w'.cell? ⟨b, o, none⟩ = w.cell? ⟨b, o, none⟩
  free : ∀ b o, b < w.heap.size → b ≠ p → w'.frozen? ⟨b, o, none⟩ = w.frozen? ⟨b, o, none⟩
theorem Turn.refl (p : Nat) (w : World) : Turn p w w := ⟨Nat.le_refl _, fun _ _ _ _ => rfl, fun _ _ _ _ => rfl⟩
theorem Turn.trans {p : Nat} {a b c : World} (h : Turn p a b) (k : Turn p b c) : Turn p a c :=
  ⟨Nat.le_trans h.size k.size, fun x o hx hp => (k.cell x o (Nat.lt_of_lt_of_le hx h.size) hp).trans (h.cell x o hx hp), fun x o hx hp => (k.free x o (Nat.lt_of_lt_of_le hx h.size) hp).trans (h.free x o hx hp)⟩
theorem Turn.kept {p : Nat} {a b : World} (h : Kept a b) : Turn p a b := ⟨h.le, fun x o hx _ => h.rd.1 x o hx, fun x o hx _ => h.rd.2 x o hx⟩
/-- An entry's three cells. -/
def enY (C : En) (x : Nat) : List Value := [.string (C.k x), .int .i64 (C.d x), C.l x]
/-- A row of entries, by their ranks. -/
structure YRow (w : World) (p N : Nat) (C : En) (d : Nat → Nat) : Prop where
  lt : p < w.heap.size
  c0 : ∀ j, j < N → w.cell? ⟨p, j * 3, none⟩ = some (.string (C.k (d j)))
  c1 : ∀ j, j < N → w.cell? ⟨p, j * 3 + 1, none⟩ = some (.int .i64 (C.d (d j)))
  c2 : ∀ j, j < N → w.cell? ⟨p, j * 3 + 2, none⟩ = some (C.l (d j))
  fr : ∀ o, o < N * 3 → w.frozen? ⟨p, o, none⟩ = false
theorem YRow.later {w w' : World} {p N : Nat} {C : En} {d : Nat → Nat} (h : YRow w p N C d) (k : Kept w w') : YRow w' p N C d :=
  ⟨Nat.lt_of_lt_of_le h.lt k.le, fun j hj => (k.rd.1 _ _ h.lt).trans (h.c0 j hj), fun j hj => (k.rd.1 _ _ h.lt).trans (h.c1 j hj), fun j hj => (k.rd.1 _ _ h.lt).trans (h.c2 j hj), fun o ho => (k.rd.2 _ _ h.lt).trans (h.fr o ho)⟩
/-- What the sort stands on: the row, the variable that holds it, and what lay there before. -/
structure Sy (B w : World) (p N bx cap : Nat) (C : En) (d : Nat → Nat) : Prop where
  row : YRow w p N C d
  box : w.cell? ⟨bx, 1, none⟩ = some (.slice (some ⟨p, 0, none⟩) N cap)
  blt : bx < w.heap.size
  ne : bx ≠ p
  hp : B.heap.size ≤ p
  kept : Kept B w
theorem Sy.later {B w w' : World} {p N bx cap : Nat} {C : En} {d : Nat → Nat} (h : Sy B w p N bx cap C d) (k : Kept w w') : Sy B w' p N bx cap C d :=
  ⟨h.row.later k, (k.rd.1 _ _ h.blt).trans h.box, Nat.lt_of_lt_of_le h.blt k.le, h.ne, h.hp, h.kept.trans k⟩
theorem kept_setCells {B : World} {b : Nat} (hb : B.heap.size ≤ b) : ∀ (vs : List Value) (o : Nat) (w : World), Kept B w → Kept B (w.setCells b o vs)
  | [], _, _, h => h
  | v :: r, o, w, h => by rw [World.setCells]; exact kept_setCells hb r (o + 1) _ (h.setAt hb v)
theorem swD_at (d : Nat → Nat) (i j q : Nat) : swD d i j q = if q = i then d j else if q = j then d i else d q := by
  unfold swD
  by_cases h : q = i
  · rw [if_pos h, show Nat.beq q i = true from Nat.beq_eq.mpr h]; rfl
  · rw [if_neg h, show Nat.beq q i = false from Bool.eq_false_iff.2 fun e => h (Nat.beq_eq.mp e)]
    by_cases g : q = j
    · rw [if_pos g, show Nat.beq q j = true from Nat.beq_eq.mpr g]; rfl
    · rw [if_neg g, show Nat.beq q j = false from Bool.eq_false_iff.2 fun e => g (Nat.beq_eq.mp e)]; rfl
theorem sw_same {d : Nat → Nat} {i j : Nat} (h : i ≠ j) : swD d i j j = d i := by rw [swD_at, if_neg (fun e => h e.symm), if_pos rfl]
theorem sw_fst {d : Nat → Nat} {i j : Nat} : swD d i j i = d j := by rw [swD_at, if_pos rfl]
theorem sw_none {d : Nat → Nat} {i j q : Nat} (h1 : q ≠ i) (h2 : q ≠ j) : swD d i j q = d q := by rw [swD_at, if_neg h1, if_neg h2]
theorem YRow.cells {w : World} {p N : Nat} {C : En} {d : Nat → Nat} (h : YRow w p N C d) (j : Nat) (hj : j < N) : ∀ k v, (enY C (d j))[k]? = some v → w.cell? ⟨p, 0 + j * 3 + k, none⟩ = some v := by
  intro k v hk
  rw [Nat.zero_add]
  match k, hk with
  | 0, hk => simp [enY] at hk; subst hk; exact h.c0 j hj
  | 1, hk => simp [enY] at hk; subst hk; exact h.c1 j hj
  | 2, hk => simp [enY] at hk; subst hk; exact h.c2 j hj
  | k + 3, hk => simp [enY] at hk
theorem YRow.of {w : World} {p N : Nat} {C : En} {d : Nat → Nat} (lt : p < w.heap.size) (h : ∀ j, j < N → ∀ k v, (enY C (d j))[k]? = some v → w.cell? ⟨p, j * 3 + k, none⟩ = some v) (fr : ∀ o, o < N * 3 → w.frozen? ⟨p, o, none⟩ = false) : YRow w p N C d :=
  ⟨lt, fun j hj => h j hj 0 _ rfl, fun j hj => h j hj 1 _ rfl, fun j hj => h j hj 2 _ rfl, fr⟩
theorem en_len (C : En) (x : Nat) : (enY C x).length = 3 := rfl
theorem en_one (C : En) (x : Nat) : ∀ v ∈ enY C x, v.oneCell' = true := by
  intro v hv
  simp [enY] at hv
  rcases hv with rfl | rfl | rfl
  · rfl
  · rfl
  · rfl
theorem some_setCells {w : World} {p o b' o' : Nat} (vs : List Value) (h : (w.cell? ⟨b', o', none⟩).isSome = true) : ((w.setCells p o vs).cell? ⟨b', o', none⟩).isSome = true := Lib.isSome_setCells p vs o w _ h
/-- Two entries exchanged. -/
theorem Sy.swapped {B w : World} {p N bx cap : Nat} {C : En} {d : Nat → Nat} (h : Sy B w p N bx cap C d) {i j : Nat} (hi : i < N) (hj : j < N) (ij : i ≠ j) :
    Sy B ((w.setCells p (0 + i * 3) (enY C (d j))).setCells p (0 + j * 3) (enY C (d i))) p N bx cap C (swD d i j) ∧ Turn p w ((w.setCells p (0 + i * 3) (enY C (d j))).setCells p (0 + j * 3) (enY C (d i))) := by
  have sm : ∀ q, q < N → ∀ k, k < 3 → (w.cell? ⟨p, q * 3 + k, none⟩).isSome = true := by
    intro q hq k hk
    rcases (show k = 0 ∨ k = 1 ∨ k = 2 by omega) with rfl | rfl | rfl
    · rw [show q * 3 + 0 = q * 3 by omega, h.row.c0 q hq]; rfl
    · rw [h.row.c1 q hq]; rfl
    · rw [h.row.c2 q hq]; rfl
  have far : ∀ b o, b ≠ p → ((w.setCells p (0 + i * 3) (enY C (d j))).setCells p (0 + j * 3) (enY C (d i))).cell? ⟨b, o, none⟩ = w.cell? ⟨b, o, none⟩ := by
    intro b o hb
    rw [World.cell?_setCells_out p _ _ _ _ (fun e _ => absurd e hb), World.cell?_setCells_out p _ _ _ _ (fun e _ => absurd e hb)]
  have fz : ∀ b o, ((w.setCells p (0 + i * 3) (enY C (d j))).setCells p (0 + j * 3) (enY C (d i))).frozen? ⟨b, o, none⟩ = w.frozen? ⟨b, o, none⟩ := by
    intro b o
    rw [World.frozen?_setCells, World.frozen?_setCells]
  have sz : ((w.setCells p (0 + i * 3) (enY C (d j))).setCells p (0 + j * 3) (enY C (d i))).heap.size = w.heap.size := by rw [size_setCells, size_setCells]
  refine ⟨⟨YRow.of (by rw [sz]; exact h.row.lt) ?_ (fun o ho => by rw [fz]; exact h.row.fr o ho), by rw [far bx 1 h.ne]; exact h.box, by rw [sz]; exact h.blt, h.ne, h.hp, kept_setCells h.hp _ _ _ (kept_setCells h.hp _ _ _ h.kept)⟩,
    ⟨by rw [sz]; exact Nat.le_refl _, fun b o _ hb => far b o hb, fun b o _ _ => fz b o⟩⟩
  intro q hq k v hk
  have k3 : k < 3 := by
    by_cases c : k < 3
    · exact c
    · rw [List.getElem?_eq_none (by rw [en_len]; omega)] at hk; cases hk
  by_cases e1 : q = j
  · subst e1
    rw [sw_same ij] at hk
    have := World.cell?_setCells_in p (enY C (d i)) (0 + q * 3) (w.setCells p (0 + i * 3) (enY C (d q))) (fun t ht => some_setCells _ (by rw [Nat.zero_add]; exact sm q hq t (by rw [en_len] at ht; exact ht))) k (by rw [en_len]; exact k3)
    simp only [Nat.zero_add] at this ⊢
    rw [this]
    rw [List.getElem?_eq_getElem (by rw [en_len]; exact k3)] at hk
    exact hk
  · rw [World.cell?_setCells_out p _ _ _ _ (fun _ _ => by rw [en_len]; show q * 3 + k < 0 + j * 3 ∨ 0 + j * 3 + 3 ≤ q * 3 + k; omega)]
    by_cases e2 : q = i
    · subst e2
      rw [sw_fst] at hk
      have := World.cell?_setCells_in p (enY C (d j)) (0 + q * 3) w (fun t ht => by rw [Nat.zero_add]; exact sm q hq t (by rw [en_len] at ht; exact ht)) k (by rw [en_len]; exact k3)
      simp only [Nat.zero_add] at this ⊢
      rw [this]
      rw [List.getElem?_eq_getElem (by rw [en_len]; exact k3)] at hk
      exact hk
    · rw [World.cell?_setCells_out p _ _ _ _ (fun _ _ => by rw [en_len]; show q * 3 + k < 0 + i * 3 ∨ 0 + i * 3 + 3 ≤ q * 3 + k; omega)]
      rw [sw_none e2 e1] at hk
      have := h.row.cells q hq k v hk
      rw [Nat.zero_add] at this
      exact this
/-- What is asked of the exchange that is handed to the sort. -/
def SwapY (B : World) (p N bx cap : Nat) (C : En) (sf : Nat) (sb : Array Value) : Prop :=
  ∀ (w : World) (d : Nat → Nat) (i j : Nat), i < N → j < N → i ≠ j → Sy B w p N bx cap C d →
    ∃ w2, (callFunc sf (#[.int .i64 (i : Int), .int .i64 (j : Int)] ++ sb)).run Tryz.prog w = .ok (.value (.tuple #[])) w2 ∧ Sy B w2 p N bx cap C (swD d i j) ∧ Turn p w w2
theorem infoY_map : (Tryz.prog.info? 38).map (fun i => (i.size, i.hasPointers, i.bytes)) = some (3, true, 48) := by kernel_rfl
theorem infoY_get : ∃ i, Tryz.prog.info? 38 = some i ∧ i.size = 3 ∧ i.hasPointers = true ∧ i.bytes = 48 := by
  have h := infoY_map
  cases e : Tryz.prog.info? 38 with
  | none => rw [e] at h; simp at h
  | some i => rw [e] at h; simp at h; exact ⟨i, rfl, h.1, h.2.1, h.2.2⟩
noncomputable def infoY : TypeInfo := infoY_get.choose
theorem infoY_is : Tryz.prog.info? 38 = some infoY := infoY_get.choose_spec.1
theorem sizeY : infoY.size = 3 := infoY_get.choose_spec.2.1
theorem ptrsY : infoY.hasPointers = true := infoY_get.choose_spec.2.2.1
theorem bytesY : infoY.bytes = 48 := infoY_get.choose_spec.2.2.2
theorem aggY (w : World) : (isAgg 38).run Tryz.prog w = .ok true w := by kernel_rfl
theorem swapY_9 (B : World) (p N bx cap : Nat) (C : En) : SwapY B p N bx cap C 93 #[.slice (some ⟨p, 0, none⟩) N cap, typeHandle Tryz.prog 38] := by
  intro w d i j hi hj ij hS
  have hr := Lib.run_swap_cells (P := Tryz.prog) false 38 infoY infoY_is aggY p 0 N cap i j hi hj (enY C (d i)) (enY C (d j)) (by rw [sizeY]; rfl) (by rw [sizeY]; rfl) (en_one C _) (en_one C _) w
    (by rw [sizeY]; exact hS.row.cells i hi) (by rw [sizeY]; exact hS.row.cells j hj)
    (by rw [sizeY]; exact fun k hk => hS.row.fr _ (by omega)) (by rw [sizeY]; exact fun k hk => hS.row.fr _ (by omega))
  rw [sizeY] at hr
  have hS2 := hS.swapped hi hj ij
  refine ⟨_, ?_, hS2.1, hS2.2⟩
  rw [run_callFunc_extern Tryz.func93 (by kernel_rfl) (by kernel_rfl) (by kernel_rfl) (e := Extern.ReflectliteSwapper.swap false) (by kernel_rfl)]
  show (Sem.run Tryz.prog (Extern.ReflectliteSwapper.swap false #[.int .i64 i, .int .i64 j, .slice (some ⟨p, 0, none⟩) N cap, typeHandle Tryz.prog 38]) w).andThen _ = _
  rw [hr]
  rfl
theorem swapY_none (B : World) (p N bx cap : Nat) (C : En) (sf : Nat) (sb : Array Value) (h : N ≤ 1) : SwapY B p N bx cap C sf sb := by
  intro w d i j hi hj ij
  omega
end Go.Proofs.YtbaahnafmfjpaaaGreatDoor
