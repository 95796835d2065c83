/-
  The library's sort of a row that is sorted but for its last place, as plain functions of the places' ranks: what it does, and that it ends in order. No condition.
-/
namespace Go.Proofs.YtbaahnafmfjpaaaGreatDoor
set_option linter.unusedVariables false

/-- Which of two places goes first; two places exchanged. -/
def lsD (d : Nat → Nat) (i j : Nat) : Bool := Nat.blt (d i) (d j)
def swD (d : Nat → Nat) (i j : Nat) : Nat → Nat := fun k => bif Nat.beq k i then d j else bif Nat.beq k j then d i else d k
/-! insertionSort_func -/
def ins1 (a : Nat) : Nat → (Nat → Nat) → (Nat → Nat)
  | 0, d => d
  | j + 1, d => bif Nat.blt a (j + 1) && lsD d (j + 1) j then ins1 a j (swD d (j + 1) j) else d
def insO (a : Nat) : Nat → Nat → (Nat → Nat) → (Nat → Nat)
  | 0, _, d => d
  | n + 1, i, d => insO a n (i + 1) (ins1 a i d)
def insD (d : Nat → Nat) (a b : Nat) : Nat → Nat := insO a (b - (a + 1)) (a + 1) d
/-! choosePivot_func -/
def or2X (d : Nat → Nat) (a b : Nat) : Nat := bif lsD d b a then b else a
def or2Y (d : Nat → Nat) (a b : Nat) : Nat := bif lsD d b a then a else b
def or2S (d : Nat → Nat) (a b : Nat) : Nat := bif lsD d b a then 1 else 0
def medJ (d : Nat → Nat) (a b c : Nat) : Nat := or2Y d (or2X d a b) (or2X d (or2Y d a b) c)
def medS (d : Nat → Nat) (a b c : Nat) : Nat := or2S d a b + (or2S d (or2Y d a b) c + or2S d (or2X d a b) (or2X d (or2Y d a b) c))
def nth3 (d : Nat → Nat) (l i : Nat) : Nat := bif Nat.ble 50 l then medJ d (i - 1) i (i + 1) else i
def nthS (d : Nat → Nat) (l i : Nat) : Nat := bif Nat.ble 50 l then medS d (i - 1) i (i + 1) else 0
def chI (d : Nat → Nat) (a b : Nat) : Nat := nth3 d (b - a) (a + (b - a) / 4)
def chJ (d : Nat → Nat) (a b : Nat) : Nat := nth3 d (b - a) (a + (b - a) / 4 * 2)
def chK (d : Nat → Nat) (a b : Nat) : Nat := nth3 d (b - a) (a + (b - a) / 4 * 3)
def chP (d : Nat → Nat) (a b : Nat) : Nat := medJ d (chI d a b) (chJ d a b) (chK d a b)
def chS (d : Nat → Nat) (a b : Nat) : Nat := nthS d (b - a) (a + (b - a) / 4) + (nthS d (b - a) (a + (b - a) / 4 * 2) + (nthS d (b - a) (a + (b - a) / 4 * 3) + medS d (chI d a b) (chJ d a b) (chK d a b)))
/-! partialInsertionSort_func: how far the row is sorted; one place shifted to the left. -/
def pisU (d : Nat → Nat) : Nat → Nat → Nat
  | 0, i => i
  | n + 1, i => bif lsD d i (i - 1) then i else pisU d n (i + 1)
def pisL : Nat → (Nat → Nat) → (Nat → Nat)
  | 0, d => d
  | j + 1, d => bif lsD d (j + 1) j then pisL j (swD d (j + 1) j) else d
def pisO (d : Nat → Nat) (a b : Nat) : Option ((Nat → Nat) × Bool) :=
  let i := pisU d (b - (a + 1)) (a + 1)
  bif Nat.beq i b then some (d, true) else bif Nat.blt (b - a) 50 then some (d, false) else
  bif Nat.beq (i + 1) b && Nat.blt (a + 1) i then
    let d2 := pisL (i - 1) (swD d i (i - 1))
    bif lsD d2 i (i - 1) then none else some (d2, true)
  else none
/-! partition_func -/
def scU (d : Nat → Nat) (a j : Nat) : Nat → Nat → Nat
  | 0, i => i
  | n + 1, i => bif Nat.ble i j && lsD d i a then scU d a j n (i + 1) else i
def scD (d : Nat → Nat) (a i : Nat) : Nat → Nat
  | 0 => 0
  | j + 1 => bif Nat.ble i (j + 1) && !(lsD d (j + 1) a) then scD d a i j else j + 1
def parL (a : Nat) : Nat → (Nat → Nat) → Nat → Nat → Option ((Nat → Nat) × Nat)
  | 0, _, _, _ => none
  | n + 1, d, i0, j0 =>
    let i := scU d a j0 (j0 + 1 - i0) i0
    let j := scD d a i j0
    bif Nat.blt j i then some (d, j) else bif Nat.beq i j then none else parL a n (swD d i j) (i + 1) (j - 1)
def parO (d0 : Nat → Nat) (a b pv : Nat) : Option ((Nat → Nat) × Nat × Bool) :=
  bif Nat.beq a pv then none else
  let d := swD d0 a pv
  let i := scU d a (b - 1) (b - 1 - a) (a + 1)
  let j := scD d a i (b - 1)
  bif Nat.blt j i then (bif Nat.ble j a then none else some (swD d j a, j, true)) else
  bif Nat.beq i j then none else
  match parL a 61 (swD d i j) (i + 1) (j - 1) with
  | none => none
  | some (d2, j2) => bif Nat.ble j2 a then none else some (swD d2 j2 a, j2, false)
/-! pdqsort_func -/
def pdqO : Nat → (Nat → Nat) → Nat → Nat → Bool → Bool → Option (Nat → Nat)
  | 0, _, _, _, _, _ => none
  | n + 1, d, a, b, wb, wp =>
    bif Nat.ble (b - a) 12 then some (insD d a b) else
    bif !wb then none else
    bif Nat.beq (chS d a b) 12 then none else
    match (bif wp && Nat.beq (chS d a b) 0 then pisO d a b else some (d, false)) with
    | none => none
    | some (d1, true) => some d1
    | some (d1, false) =>
      bif Nat.blt 0 a && !(lsD d1 (a - 1) (chP d a b)) then none else
      match parO d1 a b (chP d a b) with
      | none => none
      | some (d2, mid, al) =>
        bif Nat.blt (mid - a) (b - mid) then
          match pdqO n d2 a mid true true with
          | none => none
          | some d3 => pdqO n d3 (mid + 1) b (Nat.ble ((b - a) / 8) (mid - a)) al
        else
          match pdqO n d2 (mid + 1) b true true with
          | none => none
          | some d3 => pdqO n d3 a mid (Nat.ble ((b - a) / 8) (b - mid)) al
/-- A row that is sorted but for its last place. -/
def lastD (n p : Nat) : Nat → Nat := fun k => bif Nat.beq (k + 1) n then p else bif Nat.blt k p then k else k + 1
/-- Is it in order? -/
def idB (d : Nat → Nat) : Nat → Bool
  | 0 => true
  | n + 1 => Nat.beq (d n) n && idB d n
def endB (n p : Nat) : Bool := match pdqO 12 (lastD n p) 0 n true true with | none => false | some d => idB d n
def allB (n : Nat) : Nat → Bool
  | 0 => true
  | p + 1 => endB n p && allB n p
end Go.Proofs.YtbaahnafmfjpaaaGreatDoor
