/-
  The Gregorian calendar of the years 1600 to 2399 in plain integers: dates and day numbers go to and fro, a later date has a greater number, and the formulas of the reference come to the same. No condition but those that each theorem names.
-/
import Derived.Test.YtjfflnkocajkeaaDoorEWalkA
namespace Go.Proofs.YtjfflnkocajkeaaDoor
namespace Cal

/-- 1 in a leap year, else 0. -/
def lp (y : Int) : Int := if y % 4 = 0 ∧ (y % 100 ≠ 0 ∨ y % 400 = 0) then 1 else 0
/-- The number of January 1. -/
def ys (y : Int) : Int := (y - 1600) * 365 + ((y - 1600 + 3) / 4 - (y - 1600 + 99) / 100 + (y - 1600 + 399) / 400)
/-- The days of a month. -/
def dim (y m : Int) : Int := if m = 2 then 28 + lp y else if m = 4 ∨ m = 6 ∨ m = 9 ∨ m = 11 then 30 else 31
/-- The days of a year ahead of a month. -/
def cum (y m : Int) : Int := if m ≤ 2 then 31 * (m - 1) else (153 * m - 457) / 5 + 59 + lp y
def num (y m d : Int) : Int := ys y + cum y m + d - 1
def Vld (y m d : Int) : Prop := 1600 ≤ y ∧ y ≤ 2399 ∧ 1 ≤ m ∧ m ≤ 12 ∧ 1 ≤ d ∧ d ≤ dim y m
def vldB (y m d : Int) : Bool := decide (1600 ≤ y ∧ y ≤ 2399 ∧ 1 ≤ m ∧ m ≤ 12 ∧ 1 ≤ d ∧ d ≤ dim y m)
theorem vldB_iff (y m d : Int) : vldB y m d = true ↔ Vld y m d := by unfold vldB Vld; exact decide_eq_true_iff

theorem lp_01 (y : Int) : 0 ≤ lp y ∧ lp y ≤ 1 := by unfold lp; split <;> omega
theorem dim_bd (y m : Int) : 28 ≤ dim y m ∧ dim y m ≤ 31 := by
  have := lp_01 y; unfold dim; split; · omega
  split <;> omega
theorem months (m : Int) (h1 : 1 ≤ m) (h2 : m ≤ 12) : m = 1 ∨ m = 2 ∨ m = 3 ∨ m = 4 ∨ m = 5 ∨ m = 6 ∨ m = 7 ∨ m = 8 ∨ m = 9 ∨ m = 10 ∨ m = 11 ∨ m = 12 := by omega
theorem cum_succ (y m : Int) (h1 : 1 ≤ m) (h2 : m ≤ 12) : cum y (m + 1) = cum y m + dim y m := by
  rcases months m h1 h2 with rfl | rfl | rfl | rfl | rfl | rfl | rfl | rfl | rfl | rfl | rfl | rfl <;> simp [cum, dim] <;> (try omega)
theorem cum_one (y : Int) : cum y 1 = 0 := by simp [cum]
theorem cum_13 (y : Int) : cum y 13 = 365 + lp y := by simp [cum]
theorem cum_bd (y m : Int) (h1 : 1 ≤ m) (h2 : m ≤ 13) : 0 ≤ cum y m ∧ cum y m ≤ 366 := by
  have := lp_01 y
  unfold cum; split <;> omega
theorem ys_succ (y : Int) : ys (y + 1) = ys y + 365 + lp y := by
  unfold ys lp; split <;> omega
theorem ys_1600 : ys 1600 = 0 := by decide
theorem ys_2400 : ys 2400 = 292194 := by decide
theorem ys_mono (a b : Int) (h : a ≤ b) : ys a + 365 * (b - a) ≤ ys b := by
  unfold ys; omega
theorem ys_bd (y : Int) (h1 : 1600 ≤ y) (h2 : y ≤ 2400) : 0 ≤ ys y ∧ ys y ≤ 292194 := by
  have a := ys_mono 1600 y h1; have b := ys_mono y 2400 h2
  rw [ys_1600] at a; rw [ys_2400] at b; omega
theorem ys_guess (n : Int) (h : 0 ≤ n) (h2 : n ≤ 292193) : ys (1600 + n / 366) ≤ n := by
  unfold ys; omega
theorem cum_le (y a b : Int) (h : a ≤ b) : cum y a ≤ cum y b := by
  have l := lp_01 y
  unfold cum; split <;> split <;> omega
theorem cum_mono (y a b : Int) (h1 : 1 ≤ a) (h : a < b) (h2 : b ≤ 13) : cum y a + dim y a ≤ cum y b := by
  have := cum_succ y a h1 (by omega)
  rw [← this]
  exact cum_le y _ _ (by omega)

theorem num_lt_year {y m d : Int} (h : Vld y m d) : ys y ≤ num y m d ∧ num y m d < ys (y + 1) := by
  obtain ⟨_, _, h3, h4, h5, h6⟩ := h
  have a := cum_bd y m h3 (by omega)
  have b := ys_succ y
  have c := cum_succ y m h3 h4
  have e := cum_13 y
  have f := cum_le y (m + 1) 13 (by omega)
  unfold num; omega
theorem num_bd {y m d : Int} (h : Vld y m d) : 0 ≤ num y m d ∧ num y m d ≤ 292193 := by
  have a := num_lt_year h
  have b := ys_bd y h.1 (by have := h.2.1; omega)
  have c := ys_bd (y + 1) (by have := h.1; omega) (by have := h.2.1; omega)
  omega
/-- A later date has a greater number. -/
theorem num_lt {y m d y' m' d' : Int} (h : Vld y m d) (h' : Vld y' m' d') (l : y < y' ∨ y = y' ∧ (m < m' ∨ m = m' ∧ d < d')) : num y m d < num y' m' d' := by
  rcases l with l | ⟨rfl, l | ⟨rfl, l⟩⟩
  · have a := num_lt_year h; have b := num_lt_year h'
    have c := ys_mono (y + 1) y' (by omega)
    omega
  · have := cum_mono y m m' h.2.2.1 l (by have := h'.2.2.2.1; omega)
    obtain ⟨_, _, _, _, _, k⟩ := h
    obtain ⟨_, _, _, _, k', _⟩ := h'
    unfold num; omega
  · unfold num; omega
theorem num_inj {y m d y' m' d' : Int} (h : Vld y m d) (h' : Vld y' m' d') (e : num y m d = num y' m' d') : y = y' ∧ m = m' ∧ d = d' := by
  by_cases hy : y = y'
  · by_cases hm : m = m'
    · subst hy hm; unfold num at e; omega
    · by_cases hl : m < m'
      · have := num_lt h h' (.inr ⟨hy, .inl hl⟩); omega
      · have := num_lt h' h (.inr ⟨hy.symm, .inl (by omega)⟩); omega
  · by_cases hl : y < y'
    · have := num_lt h h' (.inl hl); omega
    · have := num_lt h' h (.inl (by omega)); omega
theorem num_le_iff {y m d y' m' d' : Int} (h : Vld y m d) (h' : Vld y' m' d') : num y m d ≤ num y' m' d' ↔ (y < y' ∨ y = y' ∧ (m < m' ∨ m = m' ∧ d ≤ d')) := by
  constructor
  · intro hle
    by_cases c : y' < y ∨ y' = y ∧ (m' < m ∨ m' = m ∧ d' < d)
    · have := num_lt h' h c; omega
    · omega
  · intro l
    by_cases c : y = y' ∧ m = m' ∧ d = d'
    · obtain ⟨rfl, rfl, rfl⟩ := c; exact Int.le_refl _
    · have := num_lt h h' (by omega); omega

theorem year_ex (n : Int) (h : 0 ≤ n) (k : Nat) (hk : n < ys (1600 + k)) : ∃ y : Int, 1600 ≤ y ∧ y < 1600 + k ∧ ys y ≤ n ∧ n < ys (y + 1) := by
  induction k with
  | zero => rw [show (1600 + ((0 : Nat) : Int)) = 1600 from rfl, ys_1600] at hk; omega
  | succ k ih =>
    by_cases c : n < ys (1600 + k)
    · obtain ⟨y, a, b, c, d⟩ := ih c; exact ⟨y, a, by omega, c, d⟩
    · refine ⟨1600 + k, by omega, by omega, by omega, ?_⟩
      rw [show (1600 + (k : Int) + 1) = 1600 + ((k + 1 : Nat) : Int) by omega]; exact hk
theorem month_ex (y r : Int) (h : 0 ≤ r) (k : Nat) (hk : r < cum y (1 + k)) (hk2 : k ≤ 12) : ∃ m : Int, 1 ≤ m ∧ m < 1 + k ∧ cum y m ≤ r ∧ r < cum y (m + 1) := by
  induction k with
  | zero => rw [show (1 + ((0 : Nat) : Int)) = 1 from rfl, cum_one] at hk; omega
  | succ k ih =>
    by_cases c : r < cum y (1 + k)
    · obtain ⟨y, a, b, c, d⟩ := ih c (by omega); exact ⟨y, a, by omega, c, d⟩
    · refine ⟨1 + k, by omega, by omega, by omega, ?_⟩
      rw [show (1 + (k : Int) + 1) = 1 + ((k + 1 : Nat) : Int) by omega]; exact hk
theorem date_ex (n : Int) (h : 0 ≤ n) (h2 : n ≤ 292193) : ∃ y m d, Vld y m d ∧ num y m d = n := by
  obtain ⟨y, a, b, c, e⟩ := year_ex n h 800 (by rw [show (1600 + ((800 : Nat) : Int)) = 2400 from rfl, ys_2400]; omega)
  have s := ys_succ y
  obtain ⟨m, a', b', c', e'⟩ := month_ex y (n - ys y) (by omega) 12 (by rw [show (1 + ((12 : Nat) : Int)) = 13 from rfl, cum_13]; omega) (by omega)
  have s' := cum_succ y m a' (by omega)
  exact ⟨y, m, n - ys y - cum y m + 1, ⟨a, by omega, a', by omega, by omega, by omega⟩, by unfold num; omega⟩

/-! The formulas of the reference. -/
def jul (y m d : Int) : Int := d + (153 * (m + 12 * ((14 - m) / 12) - 3) + 2) / 5 + 365 * (y + 4800 - (14 - m) / 12) + (y + 4800 - (14 - m) / 12) / 4 - (y + 4800 - (14 - m) / 12) / 100 + (y + 4800 - (14 - m) / 12) / 400 - 32045 - 2305448
theorem jul_num (y m d : Int) (h1 : 1 ≤ m) (h2 : m ≤ 12) : jul y m d = num y m d := by
  have a : (14 - m) / 12 = if m ≤ 2 then 1 else 0 := by split <;> omega
  unfold jul num cum ys
  rw [a]
  by_cases c : m ≤ 2
  · rw [if_pos c, if_pos c]
    omega
  · rw [if_neg c, if_neg c]
    unfold lp
    split <;> omega
def fb (n : Int) : Int := (4 * (n + 2305448 + 32044) + 3) / 146097
def fc (n : Int) : Int := n + 2305448 + 32044 - 146097 * fb n / 4
def fd (n : Int) : Int := (4 * fc n + 3) / 1461
def fe (n : Int) : Int := fc n - 1461 * fd n / 4
def fm (n : Int) : Int := (5 * fe n + 2) / 153
def Y (n : Int) : Int := 100 * fb n + fd n - 4800 + fm n / 10
def M (n : Int) : Int := fm n + 3 - 12 * (fm n / 10)
def D (n : Int) : Int := fe n - (153 * fm n + 2) / 5 + 1
theorem core (C r q e N : Int) (hr : 0 ≤ r) (hr2 : r ≤ 99) (he : 0 ≤ e) (he2 : e ≤ 365) (hq : q = C / 4) (hl : e = 365 → r % 4 = 3 ∧ (r ≠ 99 ∨ C % 4 = 3)) (hN : N = 36524 * C + q + 365 * r + r / 4 + e) :
    (4 * N + 3) / 146097 = C ∧ N - 146097 * C / 4 = 365 * r + r / 4 + e ∧ (4 * (365 * r + r / 4 + e) + 3) / 1461 = r ∧ 365 * r + r / 4 + e - 1461 * r / 4 = e := by
  have h1 : 4 * q = C - C % 4 := by omega
  have h2 : 4 * (r / 4) = r - r % 4 := by omega
  have h3 : 0 ≤ C % 4 ∧ C % 4 ≤ 3 := by omega
  have h4 : 0 ≤ r % 4 ∧ r % 4 ≤ 3 := by omega
  refine ⟨?_, ?_, ?_, ?_⟩
  · have : 0 ≤ 3 - C % 4 + 4 * (365 * r + r / 4 + e) ∧ 3 - C % 4 + 4 * (365 * r + r / 4 + e) < 146097 := by
      by_cases c : e = 365
      · have := hl c; omega
      · omega
    have e2 : 4 * N + 3 = 146097 * C + (3 - C % 4 + 4 * (365 * r + r / 4 + e)) := by omega
    rw [e2]; omega
  · omega
  · have : 0 ≤ 3 - r % 4 + 4 * e ∧ 3 - r % 4 + 4 * e < 1461 := by
      by_cases c : e = 365
      · have := hl c; omega
      · omega
    omega
  · omega
theorem months0 (m : Int) (h1 : 0 ≤ m) (h2 : m ≤ 11) : m = 0 ∨ m = 1 ∨ m = 2 ∨ m = 3 ∨ m = 4 ∨ m = 5 ∨ m = 6 ∨ m = 7 ∨ m = 8 ∨ m = 9 ∨ m = 10 ∨ m = 11 := by omega
/-- By the years that begin in March. -/
theorem back' (yy mm d : Int) (h3 : 0 ≤ mm) (h4 : mm ≤ 11) (h5 : 1 ≤ d) (h6 : d ≤ if mm = 11 then 28 + lp (yy + 1) else if mm = 1 ∨ mm = 3 ∨ mm = 6 ∨ mm = 8 then 30 else 31) (n : Int)
    (hn : n + 2305448 + 32044 = d - 1 + (153 * mm + 2) / 5 + 365 * yy + yy / 4 - yy / 100 + yy / 400) :
    Y n = yy - 4800 + mm / 10 ∧ M n = mm + 3 - 12 * (mm / 10) ∧ D n = d := by
  have l := lp_01 (yy + 1)
  obtain ⟨e, he⟩ : ∃ e, e = d - 1 + (153 * mm + 2) / 5 := ⟨_, rfl⟩
  have hm : (5 * e + 2) / 153 = mm ∧ 0 ≤ e ∧ e ≤ 365 ∧ (e = 365 → lp (yy + 1) = 1) := by
    rcases months0 mm h3 h4 with rfl | rfl | rfl | rfl | rfl | rfl | rfl | rfl | rfl | rfl | rfl | rfl <;> simp at h6 <;> omega
  obtain ⟨hm, e0, e1, e2⟩ := hm
  have hl : e = 365 → (yy % 100) % 4 = 3 ∧ (yy % 100 ≠ 99 ∨ yy / 100 % 4 = 3) := by
    intro h
    have := e2 h
    unfold lp at this
    split at this
    · rename_i c
      by_cases k : yy % 100 = 99 <;> omega
    · omega
  have hc := core (yy / 100) (yy % 100) (yy / 400) e (n + 2305448 + 32044) (by omega) (by omega) e0 e1 (by omega) hl (by omega)
  obtain ⟨c1, c2, c3, c4⟩ := hc
  have b : fb n = yy / 100 := c1
  have c : fc n = 365 * (yy % 100) + yy % 100 / 4 + e := by unfold fc; rw [b]; exact c2
  have d' : fd n = yy % 100 := by unfold fd; rw [c]; exact c3
  have e' : fe n = e := by unfold fe; rw [c, d']; exact c4
  have f : fm n = mm := by unfold fm; rw [e']; exact hm
  refine ⟨?_, ?_, ?_⟩
  · unfold Y; rw [b, d', f]; omega
  · unfold M; rw [f]
  · unfold D; rw [e', f]; omega
theorem lp_4800 (y : Int) : lp (y + 4800) = lp y := by unfold lp; rw [show (y + 4800) % 4 = y % 4 by omega, show (y + 4800) % 100 = y % 100 by omega, show (y + 4800) % 400 = y % 400 by omega]
theorem back (y m d : Int) (h : Vld y m d) : Y (num y m d) = y ∧ M (num y m d) = m ∧ D (num y m d) = d := by
  obtain ⟨h1, h2, h3, h4, h5, h6⟩ := h
  have j := jul_num y m d h3 h4
  unfold jul at j
  unfold dim at h6
  by_cases c : m ≤ 2
  · have := back' (y + 4799) (m + 9) d (by omega) (by omega) h5 (by
      rw [show y + 4799 + 1 = y + 4800 by omega, lp_4800]
      rcases (show m = 1 ∨ m = 2 by omega) with rfl | rfl <;> simpa using h6) (num y m d) (by rw [show (14 - m) / 12 = 1 by omega] at j; omega)
    obtain ⟨a, b, e⟩ := this
    refine ⟨by rw [a]; omega, by rw [b]; omega, e⟩
  · have := back' (y + 4800) (m - 3) d (by omega) (by omega) h5 (by
      rw [if_neg (by omega)]
      rw [if_neg (by omega)] at h6
      by_cases k : m = 4 ∨ m = 6 ∨ m = 9 ∨ m = 11
      · rw [if_pos k] at h6; rw [if_pos (by omega)]; exact h6
      · rw [if_neg k] at h6; rw [if_neg (by omega)]; exact h6) (num y m d) (by rw [show (14 - m) / 12 = 0 by omega] at j; omega)
    obtain ⟨a, b, e⟩ := this
    refine ⟨by rw [a]; omega, by rw [b]; omega, e⟩
theorem date (n : Int) (h : 0 ≤ n) (h2 : n ≤ 292193) : Vld (Y n) (M n) (D n) ∧ num (Y n) (M n) (D n) = n := by
  obtain ⟨y, m, d, v, rfl⟩ := date_ex n h h2
  obtain ⟨a, b, c⟩ := back y m d v
  rw [a, b, c]; exact ⟨v, rfl⟩
end Cal

end Go.Proofs.YtjfflnkocajkeaaDoor
