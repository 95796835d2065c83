/-
  Plain mathematics of the stable sort in place: an order by a key from the greatest down, and by the numbers where the keys are equal; rows with two places exchanged, rows rotated, rows merged. No condition.
-/
import Derived.Test.YtdgiljndoeldcaaSMath
namespace Go.Proofs.Ytdgiljndoeldcaa

/-- Two places exchanged. -/
def sw (d : Nat → Int) (i j : Nat) : Nat → Int := up (up d i (d j)) j (d i)
theorem sw_at (d : Nat → Int) (i j q : Nat) : sw d i j q = if q = j then d i else if q = i then d j else d q := rfl
/-- Two ranges exchanged, up to k of them. -/
def swR (d : Nat → Int) (a b k : Nat) : Nat → Int := fun q => if a ≤ q ∧ q < a + k then d (q - a + b) else if b ≤ q ∧ q < b + k then d (q - b + a) else d q
theorem swR_zero (d : Nat → Int) (a b : Nat) : swR d a b 0 = d := by
  funext q; unfold swR; rw [if_neg (by omega), if_neg (by omega)]
theorem swR_succ (d : Nat → Int) (a b k n : Nat) (h : a + n ≤ b) (hk : k < n) : sw (swR d a b k) (a + k) (b + k) = swR d a b (k + 1) := by
  funext q
  rw [sw_at]
  unfold swR
  repeat' split
  all_goals first | rfl | (exfalso; omega) | (congr 1; omega)

/-- A row rotated: [a, m) and [m, b) change places. -/
def rot (d : Nat → Int) (a m b : Nat) : Nat → Int := fun q => if a ≤ q ∧ q < a + (b - m) then d (q - a + m) else if a + (b - m) ≤ q ∧ q < b then d (q - (b - m)) else d q
/-- What there is on the way: i places ahead of m and j behind it are still to be exchanged. -/
def ur (T : Nat → Int) (m i j : Nat) : Nat → Int := fun q => if m - i ≤ q ∧ q < m then T (q + j) else if m ≤ q ∧ q < m + j then T (q - i) else T q
theorem ur_start (d : Nat → Int) (a m b : Nat) (h1 : a ≤ m) (h2 : m ≤ b) : ur (rot d a m b) m (m - a) (b - m) = d := by
  funext q
  unfold ur rot
  repeat' split
  all_goals first | rfl | (exfalso; omega) | (congr 1; omega)
theorem ur_left (T : Nat → Int) (m i j : Nat) (h : j < i) (hm : i ≤ m) : swR (ur T m i j) (m - i) m j = ur T m (i - j) j := by
  funext q
  unfold swR ur
  repeat' split
  all_goals first | rfl | (exfalso; omega) | (congr 1; omega)
theorem ur_right (T : Nat → Int) (m i j : Nat) (h : i < j) (hm : i ≤ m) : swR (ur T m i j) (m - i) (m + j - i) i = ur T m i (j - i) := by
  funext q
  unfold swR ur
  repeat' split
  all_goals first | rfl | (exfalso; omega) | (congr 1; omega)
theorem ur_end (T : Nat → Int) (m i : Nat) (hm : i ≤ m) : swR (ur T m i i) (m - i) m i = T := by
  funext q
  unfold swR ur
  repeat' split
  all_goals first | rfl | (exfalso; omega) | (congr 1; omega)

end Go.Proofs.Ytdgiljndoeldcaa
