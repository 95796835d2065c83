/-
  Lists tied by place: each one of the one list takes the first of the other that fits. No condition but those that each theorem names.
-/
import Derived.Test.YtdgiljndoeldcaaGTieM
namespace Go.Proofs.Ytdgiljndoeldcaa
set_option linter.unusedVariables false

/-- The row of ties: with whom each goes. -/
def tieR (ok : Nat → Nat → Bool) : List Nat → List Nat → (Nat → Int) → (Nat → Int)
  | [], _, T => T
  | i :: A, O, T => match O.find? (ok i) with
    | some y => tieR ok A (O.erase y) (up T i (y : Int))
    | none => tieR ok A O (up T i (-1))
theorem tieR_some {ok : Nat → Nat → Bool} {i : Nat} {A O : List Nat} {T : Nat → Int} {y : Nat} (h : O.find? (ok i) = some y) : tieR ok (i :: A) O T = tieR ok A (O.erase y) (up T i (y : Int)) := by
  rw [tieR, h]
theorem tieR_none {ok : Nat → Nat → Bool} {i : Nat} {A O : List Nat} {T : Nat → Int} (h : O.find? (ok i) = none) : tieR ok (i :: A) O T = tieR ok A O (up T i (-1)) := by
  rw [tieR, h]
theorem erase_at : ∀ {O : List Nat}, O.Nodup → ∀ (k : Nat) (h : k < O.length), O.erase O[k] = O.eraseIdx k
  | x :: r, nd, 0, h => by simp
  | x :: r, nd, k + 1, h => by
    have nd' := List.pairwise_cons.1 nd
    have hk : k < r.length := by simpa using h
    have ne : (x == r[k]) = false := by
      rw [beq_eq_false_iff_ne]; exact nd'.1 _ (List.getElem_mem hk)
    rw [List.getElem_cons_succ, List.erase_cons_tail (by rw [ne]; simp), erase_at nd'.2 k hk, List.eraseIdx_cons_succ]
/-- By the place where the first that fits stands. -/
theorem find_at {ok : Nat → Bool} {O : List Nat} (nd : O.Nodup) (h : O.findIdx ok < O.length) : O.find? ok = some (O[O.findIdx ok]) ∧ O.erase (O[O.findIdx ok]) = O.eraseIdx (O.findIdx ok) := by
  refine ⟨?_, erase_at nd _ h⟩
  rw [List.find?_eq_some_iff_getElem]
  refine ⟨List.findIdx_getElem (w := h), O.findIdx ok, h, rfl, fun j hj => ?_⟩
  have := List.not_of_lt_findIdx hj
  simpa using this
theorem find_no {ok : Nat → Bool} {O : List Nat} (h : ¬ O.findIdx ok < O.length) : O.find? ok = none := by
  rw [List.find?_eq_none]
  intro x hx
  have := List.findIdx_eq_length.1 (show O.findIdx ok = O.length by have := List.findIdx_le_length (p := ok) (xs := O); omega) x hx
  simp [this]
/-- P49: the ties of two lists. -/
def tieF (a b : List Mv) (h : Int) (i j : Nat) : Bool := fitB h (itN a i) (itN b j)
def tieX (a b : List Mv) (h : Int) : Nat → Int := tieR (tieF a b h) (srtN a) (srtN b) (fun _ => 0)
def tieL (a b : List Mv) (h : Int) : List Int := tab a.length (tieX a b h)
theorem tieL_len (a b : List Mv) (h : Int) : (tieL a b h).length = a.length := by simp [tieL, tab]
/-- What is so on the way. -/
structure TieSt (a b : List Mv) (h : Int) (k : Nat) (O : List Nat) (T : Nat → Int) : Prop where
  eq : tieR (tieF a b h) ((srtN a).drop k) O T = tieX a b h
  nd : O.Nodup
  lt : ∀ j ∈ O, j < b.length
  len : O.length ≤ b.length
theorem TieSt.start (a b : List Mv) (h : Int) : TieSt a b h 0 (srtN b) (fun _ => 0) := ⟨rfl, srtN_nodup b, fun j hj => srtN_lt b hj, by rw [srtN_len]; exact Nat.le_refl _⟩
theorem TieSt.yes {a b : List Mv} {h : Int} {k : Nat} {O : List Nat} {T : Nat → Int} (s : TieSt a b h k O T) (hk : k < (srtN a).length) (hf : O.findIdx (tieF a b h ((srtN a)[k])) < O.length) :
    TieSt a b h (k + 1) (O.eraseIdx (O.findIdx (tieF a b h ((srtN a)[k])))) (up T ((srtN a)[k]) ((O[O.findIdx (tieF a b h ((srtN a)[k]))] : Nat) : Int)) := by
  obtain ⟨f1, f2⟩ := find_at s.nd hf
  have e := s.eq
  rw [List.drop_eq_getElem_cons hk, tieR_some f1, f2] at e
  exact ⟨e, s.nd.sublist (List.eraseIdx_sublist ..), fun j hj => s.lt j ((List.eraseIdx_sublist ..).subset hj), Nat.le_trans (List.eraseIdx_sublist ..).length_le s.len⟩
theorem TieSt.no {a b : List Mv} {h : Int} {k : Nat} {O : List Nat} {T : Nat → Int} (s : TieSt a b h k O T) (hk : k < (srtN a).length) (hf : ¬ O.findIdx (tieF a b h ((srtN a)[k])) < O.length) :
    TieSt a b h (k + 1) O (up T ((srtN a)[k]) (-1)) := by
  have f := find_no hf
  have e := s.eq
  rw [List.drop_eq_getElem_cons hk, tieR_none f] at e
  exact ⟨e, s.nd, s.lt, s.len⟩
theorem TieSt.done {a b : List Mv} {h : Int} {O : List Nat} {T : Nat → Int} (s : TieSt a b h (srtN a).length O T) : tab a.length T = tieL a b h := by
  have e := s.eq
  rw [List.drop_length] at e
  unfold tieL
  rw [← e]; rfl
end Go.Proofs.Ytdgiljndoeldcaa
