/-
  Plain mathematics of fractions: what Check says, lowest terms as Lean's own rational numbers have them, sums and products, order, and rounding. No condition.
-/
namespace Go.Proofs.Ytkbbofpjelgiiaa

/-- May it be a fraction? -/
def okB (n d : Int) : Bool := decide (-1000000000000 ≤ n ∧ n ≤ 1000000000000 ∧ 1 ≤ d ∧ d ≤ 1000000)
/-- What Check says. -/
def chk (n d : Int) : Int := if d = 0 then 6 else if okB n d = true then 0 else 1
theorem ok_iff (n d : Int) : okB n d = true ↔ (-1000000000000 ≤ n ∧ n ≤ 1000000000000 ∧ 1 ≤ d ∧ d ≤ 1000000) := by
  unfold okB; exact decide_eq_true_iff
theorem chk_ok {n d : Int} (h : okB n d = true) : chk n d = 0 := by
  have := (ok_iff n d).1 h
  unfold chk; rw [if_neg (by omega), if_pos h]
theorem chk_iff (n d : Int) : chk n d = 0 ↔ okB n d = true := by
  refine ⟨fun h => ?_, chk_ok⟩
  unfold chk at h
  split at h
  · omega
  · split at h
    · assumption
    · omega
theorem chk_bd (n d : Int) : 0 ≤ chk n d ∧ chk n d ≤ 6 := by
  unfold chk; split
  · omega
  · split <;> omega

/-- What checkBoth says. -/
def chk2 (a b c d : Int) : Int := if chk a b = 0 then chk c d else chk a b
theorem chk2_iff (a b c d : Int) : chk2 a b c d = 0 ↔ okB a b = true ∧ okB c d = true := by
  unfold chk2
  rw [← chk_iff, ← chk_iff]
  split <;> simp [*]
theorem chk2_no {a b c d : Int} (h : okB a b = false) : chk2 a b c d = chk a b := by
  unfold chk2; rw [if_neg]; rw [chk_iff, h]; simp
theorem chk2_yes {a b c d : Int} (h : okB a b = true) : chk2 a b c d = chk c d := by
  unfold chk2; rw [if_pos]; rw [chk_iff, h]
/-- What bounded says. -/
def bN (n d : Int) : Int := if okB n d = true then n else 0
def bD (n d : Int) : Int := if okB n d = true then d else 0
def bE (n d : Int) : Int := if okB n d = true then 0 else 2

/-- The number. -/
def q (n d : Int) : Rat := mkRat n d.toNat
theorem q_num (n d : Int) (h : 1 ≤ d) : (q n d).num = n / (Nat.gcd d.toNat n.natAbs : Nat) := by
  unfold q; rw [Rat.num_mkRat, if_neg (by omega)]
theorem q_den (n d : Int) (h : 1 ≤ d) : (q n d).den = d.toNat / Nat.gcd d.toNat n.natAbs := by
  unfold q; rw [Rat.den_mkRat, if_neg (by omega)]
theorem q_self (r : Rat) : q r.num r.den = r := by unfold q; simp [Rat.mkRat_self]
theorem q_neg (n d : Int) : q (-n) d = - q n d := by unfold q; rw [Rat.neg_mkRat]
theorem q_eq_iff (a b c d : Int) (hb : 1 ≤ b) (hd : 1 ≤ d) : q a b = q c d ↔ a * d = c * b := by
  unfold q
  rw [Rat.mkRat_eq_iff (by omega) (by omega), Int.toNat_of_nonneg (by omega), Int.toNat_of_nonneg (by omega)]
theorem q_add (a b c d : Int) (hb : 1 ≤ b) (hd : 1 ≤ d) : q (a * d + c * b) (b * d) = q a b + q c d := by
  unfold q
  rw [Rat.mkRat_add_mkRat _ _ (by omega) (by omega), Int.toNat_mul (by omega) (by omega), Int.toNat_of_nonneg (by omega), Int.toNat_of_nonneg (by omega)]
theorem q_mul (a b c d : Int) (hb : 1 ≤ b) (hd : 1 ≤ d) : q (a * c) (b * d) = q a b * q c d := by
  unfold q
  rw [Rat.mkRat_mul_mkRat, Int.toNat_mul (by omega) (by omega)]

/-- Its numbers in lowest terms, as integers. -/
def lN (n d : Int) : Int := (q n d).num
def lD (n d : Int) : Int := (q n d).den
theorem lD_pos (n d : Int) : 1 ≤ lD n d := by
  have := (q n d).den_pos; unfold lD; omega
theorem q_low (n d : Int) : q (lN n d) (lD n d) = q n d := q_self _
theorem gcd_pos (n d : Int) (h : 1 ≤ d) : 1 ≤ (Nat.gcd d.toNat n.natAbs : Nat) := Nat.gcd_pos_of_pos_left _ (by omega)
theorem gcd_dn (n d : Int) : ((Nat.gcd d.toNat n.natAbs : Nat) : Int) ∣ n := by
  rw [← Int.dvd_natAbs, Int.ofNat_dvd]; exact Nat.gcd_dvd_right _ _
theorem gcd_dd (n d : Int) (h : 0 ≤ d) : ((Nat.gcd d.toNat n.natAbs : Nat) : Int) ∣ d := by
  have := Int.ofNat_dvd.2 (Nat.gcd_dvd_left d.toNat n.natAbs)
  rwa [Int.toNat_of_nonneg h] at this
theorem lN_eq (n d : Int) (h : 1 ≤ d) : n = lN n d * (Nat.gcd d.toNat n.natAbs : Nat) := by
  unfold lN; rw [q_num n d h]; exact (Int.ediv_mul_cancel (gcd_dn n d)).symm
theorem lD_eq (n d : Int) (h : 1 ≤ d) : d = lD n d * (Nat.gcd d.toNat n.natAbs : Nat) := by
  unfold lD; rw [q_den n d h]
  have := Nat.div_mul_cancel (Nat.gcd_dvd_left d.toNat n.natAbs)
  have e : (((d.toNat / d.toNat.gcd n.natAbs * d.toNat.gcd n.natAbs : Nat)) : Int) = d := by rw [this]; omega
  rw [Int.natCast_mul] at e
  exact e.symm
theorem lN_tdiv (n d : Int) (h : 1 ≤ d) : n.tdiv (Nat.gcd d.toNat n.natAbs : Nat) = lN n d := by
  unfold lN; rw [q_num n d h]; exact Int.tdiv_eq_ediv_of_dvd (gcd_dn n d)
theorem lD_tdiv (n d : Int) (h : 1 ≤ d) : d.tdiv (Nat.gcd d.toNat n.natAbs : Nat) = lD n d := by
  have e := lD_eq n d h
  have g := gcd_pos n d h
  rw [Int.tdiv_eq_ediv_of_dvd (gcd_dd n d (by omega))]
  conv => lhs; lhs; rw [e]
  exact Int.mul_ediv_cancel _ (by omega)
theorem lD_div (n d : Int) (h : 1 ≤ d) : d / (Nat.gcd d.toNat n.natAbs : Nat) = lD n d := by
  rw [← lD_tdiv n d h, Int.tdiv_eq_ediv_of_dvd (gcd_dd n d (by omega))]
theorem mul_bd (a g : Int) (hg : 1 ≤ g) (b : Int) (h0 : -b ≤ a * g) (h1 : a * g ≤ b) : -b ≤ a ∧ a ≤ b := by
  have hb : 0 ≤ b := by omega
  constructor
  · by_cases c : 0 ≤ a
    · omega
    · have : a * g ≤ a * 1 := Int.mul_le_mul_of_nonpos_left (by omega) hg
      omega
  · by_cases c : a ≤ 0
    · omega
    · have : a * 1 ≤ a * g := Int.mul_le_mul_of_nonneg_left hg (by omega)
      omega
theorem lN_bd (n d b : Int) (h : 1 ≤ d) (h0 : -b ≤ n) (h1 : n ≤ b) : -b ≤ lN n d ∧ lN n d ≤ b := by
  have e := lN_eq n d h
  have g := gcd_pos n d h
  exact mul_bd _ (Nat.gcd d.toNat n.natAbs : Nat) (by omega) b (by omega) (by omega)
theorem lD_bd (n d : Int) (h : 1 ≤ d) : lD n d ≤ d := by
  have e := lD_eq n d h
  have g := gcd_pos n d h
  have := mul_bd (lD n d) _ (show (1 : Int) ≤ (Nat.gcd d.toNat n.natAbs : Nat) by omega) d (by omega) (by omega)
  omega
theorem low_ok {n d : Int} (h : okB n d = true) : okB (lN n d) (lD n d) = true := by
  rw [ok_iff] at h ⊢
  have a := lN_bd n d _ h.2.2.1 h.1 h.2.1
  have b := lD_bd n d h.2.2.1
  have c := lD_pos n d
  omega
theorem low_low (n d : Int) : lN (lN n d) (lD n d) = lN n d ∧ lD (lN n d) (lD n d) = lD n d := by
  unfold lN lD; rw [q_self]; exact ⟨rfl, rfl⟩
/-- Two in lowest terms are the same numbers just if they are the same number. -/
theorem low_inj (a b c d : Int) : (lN a b = lN c d ∧ lD a b = lD c d) ↔ q a b = q c d := by
  constructor
  · rintro ⟨h1, h2⟩
    unfold lN at h1; unfold lD at h2
    exact Rat.ext h1 (by omega)
  · intro h; unfold lN lD; rw [h]; exact ⟨rfl, rfl⟩

/-- Sums and products in lowest terms. -/
def sN (a b c d : Int) : Int := (q a b + q c d).num
def sD (a b c d : Int) : Int := (q a b + q c d).den
def pN (a b c d : Int) : Int := (q a b * q c d).num
def pD (a b c d : Int) : Int := (q a b * q c d).den
theorem sum_low (a b c d : Int) (hb : 1 ≤ b) (hd : 1 ≤ d) : lN (a * d + c * b) (b * d) = sN a b c d ∧ lD (a * d + c * b) (b * d) = sD a b c d := by
  unfold lN lD sN sD; rw [q_add a b c d hb hd]; exact ⟨rfl, rfl⟩

/-! Products, crosswise. -/
theorem cross (a b : Rat) : (a * b).num = lN a.num b.den * lN b.num a.den ∧ ((a * b).den : Int) = lD b.num a.den * lD a.num b.den := by
  have e1 : (a * b).num = a.num / (Nat.gcd a.num.natAbs b.den : Nat) * (b.num / (Nat.gcd b.num.natAbs a.den : Nat)) := by
    show (Rat.mul a b).num = _
    unfold Rat.mul
    simp
  have e2 : (a * b).den = a.den / (Nat.gcd b.num.natAbs a.den : Nat) * (b.den / (Nat.gcd a.num.natAbs b.den : Nat)) := by
    show (Rat.mul a b).den = _
    unfold Rat.mul
    simp
  have ha := a.den_pos
  have hb := b.den_pos
  have l1 : a.num / (Nat.gcd b.den a.num.natAbs : Nat) = lN a.num b.den := by unfold lN; rw [q_num _ _ (by omega)]; simp
  have l2 : b.num / (Nat.gcd a.den b.num.natAbs : Nat) = lN b.num a.den := by unfold lN; rw [q_num _ _ (by omega)]; simp
  have d1 : lD a.num b.den = ((b.den / Nat.gcd b.den a.num.natAbs : Nat) : Int) := by unfold lD; rw [q_den _ _ (by omega)]; simp
  have d2 : lD b.num a.den = ((a.den / Nat.gcd a.den b.num.natAbs : Nat) : Int) := by unfold lD; rw [q_den _ _ (by omega)]; simp
  rw [Nat.gcd_comm] at l1 l2
  refine ⟨by rw [e1, l1, l2], ?_⟩
  rw [d1, d2, e2, Nat.gcd_comm b.den, Nat.gcd_comm a.den]
  simp

theorem cross_low (a b c d : Int) : lN (lN a b) (lD c d) * lN (lN c d) (lD a b) = pN a b c d ∧ lD (lN a b) (lD c d) * lD (lN c d) (lD a b) = pD a b c d := by
  obtain ⟨h1, h2⟩ := cross (q a b) (q c d)
  unfold pN pD
  rw [h1, h2]
  exact ⟨rfl, Int.mul_comm _ _⟩
/-- A product is too great just if the one is more than a bound by the other one. -/
theorem far_iff (x y : Int) (hx : x ≠ 0) : (1000000000000 / (x.natAbs : Int) < (y.natAbs : Int)) ↔ 1000000000000 < ((x * y).natAbs : Int) := by
  rw [Int.natAbs_mul, Int.natCast_mul, Int.ediv_lt_iff_lt_mul (by omega), Int.mul_comm]
theorem mul_in (x y : Int) (h : ((x * y).natAbs : Int) ≤ 1000000000000) : -1000000000000 ≤ x * y ∧ x * y ≤ 1000000000000 := by omega
theorem mul_abs (x y b c : Int) (h0 : -b ≤ x) (h1 : x ≤ b) (h2 : -c ≤ y) (h3 : y ≤ c) : -(b * c) ≤ x * y ∧ x * y ≤ b * c := by
  have e : ((x * y).natAbs : Int) ≤ b * c := by
    rw [Int.natAbs_mul, Int.natCast_mul]
    exact Int.mul_le_mul (by omega) (by omega) (by omega) (by omega)
  omega

/-- Less, equal, greater. -/
def cmpV (x y : Int) : Int := if x < y then -1 else if y < x then 1 else 0
theorem cmpV_lt {x y : Int} (h : x < y) : cmpV x y = -1 := by unfold cmpV; rw [if_pos h]
theorem cmpV_gt {x y : Int} (h : y < x) : cmpV x y = 1 := by unfold cmpV; rw [if_neg (by omega), if_pos h]
theorem cmpV_eq (x : Int) : cmpV x x = 0 := by unfold cmpV; rw [if_neg (by omega), if_neg (by omega)]
theorem cmpV_bd (x y : Int) : -1 ≤ cmpV x y ∧ cmpV x y ≤ 1 := by unfold cmpV; split <;> (try split) <;> omega

/-! Rounding. -/
/-- The way up from below. -/
def upB (n d way : Int) : Bool :=
  if way = 0 then false else if way = 1 then decide (0 < n % d) else if way = 2 then decide (d < 2 * (n % d) ∨ 2 * (n % d) = d ∧ 0 < n) else decide (d < 2 * (n % d) ∨ 2 * (n % d) = d ∧ (n / d) % 2 = 1)
def rnd (n d way : Int) : Int := if upB n d way = true then n / d + 1 else n / d
theorem upB_0 (n d : Int) : upB n d 0 = false := rfl
theorem upB_1 (n d : Int) : upB n d 1 = decide (0 < n % d) := rfl
theorem upB_2 (n d : Int) : upB n d 2 = decide (d < 2 * (n % d) ∨ 2 * (n % d) = d ∧ 0 < n) := rfl
theorem upB_3 (n d : Int) : upB n d 3 = decide (d < 2 * (n % d) ∨ 2 * (n % d) = d ∧ (n / d) % 2 = 1) := rfl
/-- What is there of a division. -/
theorem div_spec (n d : Int) (h : 1 ≤ d) : n = d * (n / d) + n % d ∧ 0 ≤ n % d ∧ n % d < d :=
  ⟨by have := Int.mul_ediv_add_emod n d; omega, Int.emod_nonneg _ (by omega), Int.emod_lt_of_pos _ (by omega)⟩
theorem div_bd (n d b : Int) (h : 1 ≤ d) (h0 : -b ≤ n) (h1 : n ≤ b) : -b - 1 ≤ n / d ∧ n / d ≤ b := by
  obtain ⟨e, r0, r1⟩ := div_spec n d h
  constructor
  · by_cases c : 0 ≤ n / d
    · omega
    · have : d * (n / d) ≤ 1 * (n / d) := Int.mul_le_mul_of_nonpos_right h (by omega)
      by_cases z : n / d = -1
      · omega
      · have : d * (n / d + 1) ≤ 1 * (n / d + 1) := Int.mul_le_mul_of_nonpos_right h (by omega)
        rw [Int.mul_add] at this
        omega
  · by_cases c : n / d ≤ 0
    · omega
    · have : 1 * (n / d) ≤ d * (n / d) := Int.mul_le_mul_of_nonneg_right h (by omega)
      omega
theorem rnd_bd (n d way : Int) : n / d ≤ rnd n d way ∧ rnd n d way ≤ n / d + 1 := by
  unfold rnd; split <;> omega
/-- A quotient is known by its place. -/
theorem div_unique (n d k : Int) (h : 1 ≤ d) (h0 : d * k ≤ n) (h1 : n < d * (k + 1)) : n / d = k ∧ n % d = n - d * k := by
  have e : n / d = k := by
    rw [Int.mul_comm] at h0 h1
    have a : k ≤ n / d := (Int.le_ediv_iff_mul_le (by omega)).2 h0
    have b : n / d < k + 1 := (Int.ediv_lt_iff_lt_mul (by omega)).2 h1
    omega
  refine ⟨e, ?_⟩
  have := Int.mul_ediv_add_emod n d
  rw [e] at this; omega

end Go.Proofs.Ytkbbofpjelgiiaa
