/-
  Months, years and days of Euro30 in plain integers: what comes of adding months to a day, the order of days by month and day, and the laws that follow. No condition but those that each theorem names.
-/
import Derived.Test.YtjfflnkocajkeaaDoorMath
namespace Go.Proofs.YtjfflnkocajkeaaDoor

/-- The month that is k months from that of day n, counted from January 1600. -/
def idx (n k : Int) : Int := (Cal.Y n - 1600) * 12 + Cal.M n - 1 + k
/-- The day of the month at which Add comes out. -/
def addD (n k : Int) : Int := min (Cal.D n) (Cal.dim (1600 + idx n k / 12) (idx n k % 12 + 1))
/-- The day that comes out of Add. -/
def addV (n k : Int) : Int := Cal.num (1600 + idx n k / 12) (idx n k % 12 + 1) (min (Cal.D n) (Cal.dim (1600 + idx n k / 12) (idx n k % 12 + 1)))
/-- The months from a to b. -/
def monV (a b : Int) : Int := idx b 0 - idx a 0 - (if Cal.D b < min (Cal.D a) (Cal.dim (Cal.Y b) (Cal.M b)) then 1 else 0)

theorem dbd (n : Int) (h0 : 0 ≤ n) (h1 : n ≤ 292193) : 1600 ≤ Cal.Y n ∧ Cal.Y n ≤ 2399 ∧ 1 ≤ Cal.M n ∧ Cal.M n ≤ 12 ∧ 1 ≤ Cal.D n ∧ Cal.D n ≤ Cal.dim (Cal.Y n) (Cal.M n) ∧ Cal.D n ≤ 31 ∧ Cal.dim (Cal.Y n) (Cal.M n) ≤ 31 ∧ 28 ≤ Cal.dim (Cal.Y n) (Cal.M n) := by
  obtain ⟨⟨a, b, c, d, e, f⟩, _⟩ := Cal.date n h0 h1
  have := Cal.dim_bd (Cal.Y n) (Cal.M n)
  omega
theorem idx_bd (n : Int) (h0 : 0 ≤ n) (h1 : n ≤ 292193) : 0 ≤ idx n 0 ∧ idx n 0 ≤ 9599 := by
  have := dbd n h0 h1
  unfold idx; omega
theorem idx_add (n k : Int) : idx n k = idx n 0 + k := by unfold idx; omega
theorem idx_y (n : Int) (h0 : 0 ≤ n) (h1 : n ≤ 292193) : 1600 + idx n 0 / 12 = Cal.Y n ∧ idx n 0 % 12 + 1 = Cal.M n := by
  have := dbd n h0 h1
  unfold idx; omega
/-- The date that comes out of Add. -/
theorem add_date (n k : Int) (h0 : 0 ≤ n) (h1 : n ≤ 292193) (h2 : 0 ≤ idx n k) (h3 : idx n k < 9600) :
    Cal.Y (addV n k) = 1600 + idx n k / 12 ∧ Cal.M (addV n k) = idx n k % 12 + 1 ∧ Cal.D (addV n k) = addD n k ∧ 0 ≤ addV n k ∧ addV n k ≤ 292193 := by
  have hd := dbd n h0 h1
  have hm := Cal.dim_bd (1600 + idx n k / 12) (idx n k % 12 + 1)
  have v : Cal.Vld (1600 + idx n k / 12) (idx n k % 12 + 1) (min (Cal.D n) (Cal.dim (1600 + idx n k / 12) (idx n k % 12 + 1))) :=
    ⟨by omega, by omega, by omega, by omega, by omega, by omega⟩
  obtain ⟨a, b, c⟩ := Cal.back _ _ _ v
  have e := Cal.num_bd v
  exact ⟨a, b, c, e.1, e.2⟩
theorem add_idx (n k j : Int) (h0 : 0 ≤ n) (h1 : n ≤ 292193) (h2 : 0 ≤ idx n k) (h3 : idx n k < 9600) : idx (addV n k) j = idx n k + j := by
  obtain ⟨a, b, _⟩ := add_date n k h0 h1 h2 h3
  have : idx (addV n k) j = (Cal.Y (addV n k) - 1600) * 12 + Cal.M (addV n k) - 1 + j := rfl
  rw [this, a, b]; omega
/-- Days in order, by month and day. -/
theorem day_le_iff (a b : Int) (a0 : 0 ≤ a) (a1 : a ≤ 292193) (b0 : 0 ≤ b) (b1 : b ≤ 292193) : a ≤ b ↔ idx a 0 < idx b 0 ∨ idx a 0 = idx b 0 ∧ Cal.D a ≤ Cal.D b := by
  obtain ⟨va, ea⟩ := Cal.date a a0 a1
  obtain ⟨vb, eb⟩ := Cal.date b b0 b1
  have k := Cal.num_le_iff va vb
  rw [ea, eb] at k
  rw [k]
  have := dbd a a0 a1
  have := dbd b b0 b1
  unfold idx
  omega
theorem add_le_iff (n k b : Int) (h0 : 0 ≤ n) (h1 : n ≤ 292193) (h2 : 0 ≤ idx n k) (h3 : idx n k < 9600) (b0 : 0 ≤ b) (b1 : b ≤ 292193) :
    addV n k ≤ b ↔ idx n k < idx b 0 ∨ idx n k = idx b 0 ∧ addD n k ≤ Cal.D b := by
  obtain ⟨_, _, c, d, e⟩ := add_date n k h0 h1 h2 h3
  rw [day_le_iff _ _ d e b0 b1, add_idx n k 0 h0 h1 h2 h3, c]
  omega
theorem addD_le (n k : Int) : addD n k ≤ Cal.D n := by unfold addD; omega
theorem addD_28 (n k : Int) (h : Cal.D n ≤ 28) : addD n k = Cal.D n := by
  have := Cal.dim_bd (1600 + idx n k / 12) (idx n k % 12 + 1)
  unfold addD; omega
/-- In the month of b, of as many days at the most. -/
theorem addD_at (n k b : Int) (b0 : 0 ≤ b) (b1 : b ≤ 292193) (h : idx n k = idx b 0) : addD n k = min (Cal.D n) (Cal.dim (Cal.Y b) (Cal.M b)) := by
  obtain ⟨e1, e2⟩ := idx_y b b0 b1
  unfold addD; rw [h, e1, e2]
/-- GALOIS. -/
theorem mon_le (a b k : Int) (a0 : 0 ≤ a) (hab : a ≤ b) (b1 : b ≤ 292193) (k0 : 0 ≤ k) : k ≤ monV a b ↔ (idx a k < 9600 ∧ addV a k ≤ b) := by
  have ib := idx_bd b (by omega) b1
  have ia := idx_bd a a0 (by omega)
  have hk := idx_add a k
  constructor
  · intro h
    have hlt : idx a k ≤ idx b 0 := by unfold monV at h; split at h <;> omega
    refine ⟨by omega, ?_⟩
    rw [add_le_iff a k b a0 (by omega) (by omega) (by omega) (by omega) b1]
    by_cases c : idx a k = idx b 0
    · right
      rw [addD_at a k b (by omega) b1 c]
      unfold monV at h
      split at h <;> omega
    · left; omega
  · rintro ⟨h1, h2⟩
    rw [add_le_iff a k b a0 (by omega) (by omega) (by omega) (by omega) b1] at h2
    unfold monV
    rcases h2 with h2 | ⟨h2, h3⟩
    · split <;> omega
    · rw [addD_at a k b (by omega) b1 h2] at h3
      rw [if_neg (by omega)]; omega
theorem mon_bd (a b : Int) (a0 : 0 ≤ a) (hab : a ≤ b) (b1 : b ≤ 292193) : 0 ≤ monV a b ∧ monV a b ≤ 9599 := by
  have ib := idx_bd b (by omega) b1
  have ia := idx_bd a a0 (by omega)
  have o := (day_le_iff a b a0 (by omega) (by omega) b1).1 hab
  unfold monV
  split <;> omega
theorem mon_between (a b c : Int) (a0 : 0 ≤ a) (hab : a ≤ b) (hbc : b ≤ c) (c1 : c ≤ 292193) :
    monV a b ≤ monV a c ∧ monV b c ≤ monV a c ∧ monV a b + monV b c ≤ monV a c + 1 ∧ monV a c ≤ monV a b + monV b c + 1 := by
  have o1 := (day_le_iff a b a0 (by omega) (by omega) (by omega)).1 hab
  have o2 := (day_le_iff b c (by omega) (by omega) (by omega) c1).1 hbc
  have e : idx b 0 = idx c 0 → Cal.Y b = Cal.Y c ∧ Cal.M b = Cal.M c := by
    intro h
    have p := idx_y b (by omega) (by omega)
    have q := idx_y c (by omega) c1
    rw [h] at p; omega
  have db := dbd b (by omega) (by omega)
  have dc := dbd c (by omega) c1
  unfold monV
  by_cases h : idx b 0 = idx c 0
  · obtain ⟨e1, e2⟩ := e h
    rw [e1, e2] at *
    split <;> split <;> split <;> omega
  · split <;> split <;> split <;> omega
/-- From a later day on it is no sooner. -/
theorem add_mono (n m k : Int) (n0 : 0 ≤ n) (hnm : n ≤ m) (m1 : m ≤ 292193) (h2 : 0 ≤ idx n k) (h3 : idx n k < 9600) (h4 : 0 ≤ idx m k) (h5 : idx m k < 9600) : addV n k ≤ addV m k := by
  obtain ⟨_, _, c, d, e⟩ := add_date m k (by omega) m1 h4 h5
  rw [add_le_iff n k _ n0 (by omega) h2 h3 d e, add_idx m k 0 (by omega) m1 h4 h5, c]
  have o := (day_le_iff n m n0 (by omega) (by omega) m1).1 hnm
  have p := idx_add n k
  have q := idx_add m k
  rcases o with o | ⟨o, o2⟩
  · left; omega
  · right
    have r : idx n k = idx m k := by omega
    refine ⟨by omega, ?_⟩
    unfold addD; rw [r]; omega
/-- By more months it is no sooner. -/
theorem add_more (n k j : Int) (n0 : 0 ≤ n) (n1 : n ≤ 292193) (hkj : k ≤ j) (h2 : 0 ≤ idx n k) (h3 : idx n k < 9600) (h4 : 0 ≤ idx n j) (h5 : idx n j < 9600) : addV n k ≤ addV n j := by
  obtain ⟨_, _, c, d, e⟩ := add_date n j n0 n1 h4 h5
  rw [add_le_iff n k _ n0 n1 h2 h3 d e, add_idx n j 0 n0 n1 h4 h5, c]
  have p := idx_add n k
  have q := idx_add n j
  by_cases z : k = j
  · right; subst z; exact ⟨by omega, Int.le_refl _⟩
  · left; omega
theorem add_zero (n : Int) (n0 : 0 ≤ n) (n1 : n ≤ 292193) : addV n 0 = n := by
  obtain ⟨e1, e2⟩ := idx_y n n0 n1
  obtain ⟨v, e⟩ := Cal.date n n0 n1
  have := dbd n n0 n1
  unfold addV
  rw [e1, e2, show min (Cal.D n) (Cal.dim (Cal.Y n) (Cal.M n)) = Cal.D n by omega]
  exact e
/-- Of days up to the 28th, months are added in parts as at once. -/
theorem add_add (n k j : Int) (n0 : 0 ≤ n) (n1 : n ≤ 292193) (h28 : Cal.D n ≤ 28) (h2 : 0 ≤ idx n k) (h3 : idx n k < 9600) : addV (addV n k) j = addV n (k + j) := by
  obtain ⟨_, _, c, d, e⟩ := add_date n k n0 n1 h2 h3
  rw [addD_28 n k h28] at c
  have p := idx_add n k
  have q := idx_add n (k + j)
  have r := add_idx n k j n0 n1 h2 h3
  have s : idx (addV n k) j = idx n (k + j) := by omega
  unfold addV
  unfold addV at s c
  rw [s, c]
/-- The date up to the 28th. -/
theorem cut28 (n : Int) (n0 : 0 ≤ n) (n1 : n ≤ 292193) : Cal.Vld (Cal.Y n) (Cal.M n) (min (Cal.D n) 28) ∧ Cal.Y (Cal.num (Cal.Y n) (Cal.M n) (min (Cal.D n) 28)) = Cal.Y n ∧ Cal.M (Cal.num (Cal.Y n) (Cal.M n) (min (Cal.D n) 28)) = Cal.M n ∧ Cal.D (Cal.num (Cal.Y n) (Cal.M n) (min (Cal.D n) 28)) = min (Cal.D n) 28 := by
  have := dbd n n0 n1
  have v : Cal.Vld (Cal.Y n) (Cal.M n) (min (Cal.D n) 28) := ⟨by omega, by omega, by omega, by omega, by omega, by omega⟩
  exact ⟨v, Cal.back _ _ _ v⟩
theorem last_ok (n : Int) (n0 : 0 ≤ n) (n1 : n ≤ 292193) : Cal.Vld (Cal.Y n) (Cal.M n) (Cal.dim (Cal.Y n) (Cal.M n)) := by
  have := dbd n n0 n1
  exact ⟨by omega, by omega, by omega, by omega, by omega, by omega⟩
/-- The last day of the month of n. -/
def lastV (n : Int) : Int := Cal.num (Cal.Y n) (Cal.M n) (Cal.dim (Cal.Y n) (Cal.M n))
theorem last_date (n : Int) (n0 : 0 ≤ n) (n1 : n ≤ 292193) : Cal.Y (lastV n) = Cal.Y n ∧ Cal.M (lastV n) = Cal.M n ∧ Cal.D (lastV n) = Cal.dim (Cal.Y n) (Cal.M n) ∧ n ≤ lastV n ∧ 0 ≤ lastV n ∧ lastV n ≤ 292193 ∧ lastV (lastV n) = lastV n := by
  have v := last_ok n n0 n1
  obtain ⟨a, b, c⟩ := Cal.back _ _ _ v
  have bd := Cal.num_bd v
  have d := dbd n n0 n1
  obtain ⟨vn, en⟩ := Cal.date n n0 n1
  have l : n ≤ lastV n := by
    have : lastV n = n - Cal.D n + Cal.dim (Cal.Y n) (Cal.M n) := by unfold lastV; unfold Cal.num at *; omega
    omega
  refine ⟨a, b, c, l, bd.1, bd.2, ?_⟩
  have a' : Cal.Y (lastV n) = Cal.Y n := a
  have b' : Cal.M (lastV n) = Cal.M n := b
  show Cal.num (Cal.Y (lastV n)) (Cal.M (lastV n)) (Cal.dim (Cal.Y (lastV n)) (Cal.M (lastV n))) = lastV n
  rw [a', b']; rfl
theorem last_next (n : Int) (n0 : 0 ≤ n) (n1 : n ≤ 292193) (h : lastV n ≠ 292193) : Cal.D (lastV n + 1) = 1 ∧ 12 * Cal.Y (lastV n + 1) + Cal.M (lastV n + 1) = 12 * Cal.Y n + Cal.M n + 1 ∧ lastV n + 1 ≤ 292193 := by
  have d := dbd n n0 n1
  have bd := Cal.num_bd (last_ok n n0 n1)
  have s := Cal.cum_succ (Cal.Y n) (Cal.M n) (by omega) (by omega)
  by_cases hm : Cal.M n = 12
  · have hy : Cal.Y n < 2399 := by
      by_cases z : Cal.Y n = 2399
      · exfalso; apply h; unfold lastV; rw [z, hm]; decide
      · omega
    have e : lastV n + 1 = Cal.num (Cal.Y n + 1) 1 1 := by
      have y := Cal.ys_succ (Cal.Y n)
      have c := Cal.cum_13 (Cal.Y n)
      have o := Cal.cum_one (Cal.Y n + 1)
      unfold lastV Cal.num
      rw [hm] at s ⊢
      rw [show (12 + 1 : Int) = 13 from rfl] at s
      omega
    have v : Cal.Vld (Cal.Y n + 1) 1 1 := ⟨by omega, by omega, by omega, by omega, by omega, by have := Cal.dim_bd (Cal.Y n + 1) 1; omega⟩
    obtain ⟨a, b, c⟩ := Cal.back _ _ _ v
    have k := Cal.num_bd v
    rw [e, a, b, c]
    exact ⟨rfl, by omega, k.2⟩
  · have e : lastV n + 1 = Cal.num (Cal.Y n) (Cal.M n + 1) 1 := by
      unfold lastV Cal.num; omega
    have v : Cal.Vld (Cal.Y n) (Cal.M n + 1) 1 := ⟨by omega, by omega, by omega, by omega, by omega, by have := Cal.dim_bd (Cal.Y n) (Cal.M n + 1); omega⟩
    obtain ⟨a, b, c⟩ := Cal.back _ _ _ v
    have k := Cal.num_bd v
    rw [e, a, b, c]
    exact ⟨rfl, by omega, k.2⟩
/-- The days of Euro30. -/
def euV (y m d y' m' d' : Int) : Int := (y' - y) * 360 + (m' - m) * 30 + min d' 30 - min d 30
/-- The days of Euro30 from one day to another. -/
def euN (a b : Int) : Int := euV (Cal.Y a) (Cal.M a) (Cal.D a) (Cal.Y b) (Cal.M b) (Cal.D b)
theorem euN_eq (a b : Int) : euN a b = 30 * (idx b 0 - idx a 0) + min (Cal.D b) 30 - min (Cal.D a) 30 := by
  unfold euN euV idx; omega
theorem euro_add (n k : Int) (n0 : 0 ≤ n) (n1 : n ≤ 292193) (h28 : Cal.D n ≤ 28) (h2 : 0 ≤ idx n k) (h3 : idx n k < 9600) : euN n (addV n k) = 30 * k := by
  obtain ⟨_, _, c, _, _⟩ := add_date n k n0 n1 h2 h3
  rw [euN_eq, add_idx n k 0 n0 n1 h2 h3, c, addD_28 n k h28, idx_add n k]; omega
theorem add_pos (n k : Int) (n0 : 0 ≤ n) (n1 : n ≤ 292193) (hk : 0 ≤ k) (h3 : idx n k < 9600) : n ≤ addV n k := by
  have i := idx_bd n n0 n1
  have j := idx_add n k
  have := add_more n 0 k n0 n1 hk i.1 (by omega) (by omega) h3
  rw [add_zero n n0 n1] at this
  exact this
theorem add_years (n : Int) (k : Nat) (n0 : 0 ≤ n) (n1 : n ≤ 292193) (h28 : Cal.D n ≤ 28) : addV n (12 * k) = Cal.num (Cal.Y n + k) (Cal.M n) (Cal.D n) := by
  have d := dbd n n0 n1
  have ey : 1600 + idx n (12 * k) / 12 = Cal.Y n + k := by unfold idx; omega
  have em : idx n (12 * k) % 12 + 1 = Cal.M n := by unfold idx; omega
  have b := Cal.dim_bd (Cal.Y n + k) (Cal.M n)
  unfold addV
  rw [ey, em, show min (Cal.D n) (Cal.dim (Cal.Y n + k) (Cal.M n)) = Cal.D n by omega]

/-- So many years later, on the same date. -/
theorem years_num (y m d : Int) (k : Nat) : 365 * k ≤ Cal.num (y + k) m d - Cal.num y m d ∧ Cal.num (y + k) m d - Cal.num y m d ≤ 366 * k := by
  induction k with
  | zero => simp
  | succ k ih =>
    have s := Cal.ys_succ (y + k)
    have l := Cal.lp_01 (y + k)
    have l' := Cal.lp_01 (y + k + 1)
    rw [show y + ((k + 1 : Nat) : Int) = y + k + 1 by omega]
    unfold Cal.num Cal.cum at *
    by_cases c : m ≤ 2
    · simp only [if_pos c] at *; omega
    · simp only [if_neg c] at *; omega
theorem years_add (n k : Int) (k0 : 0 ≤ k) (n0 : 0 ≤ n) (n1 : n ≤ 292193) (h28 : Cal.D n ≤ 28) : 365 * k ≤ addV n (12 * k) - n ∧ addV n (12 * k) - n ≤ 366 * k := by
  obtain ⟨j, rfl⟩ := Int.eq_ofNat_of_zero_le k0
  have e := (Cal.date n n0 n1).2
  have y := years_num (Cal.Y n) (Cal.M n) (Cal.D n) j
  have a := add_years n j n0 n1 h28
  rw [a]; omega

end Go.Proofs.YtjfflnkocajkeaaDoor
