/-
  Plain mathematics of money: rounding of a quotient, by the quarters of its rest; shares and taxes. No condition but those that each theorem names.
-/
import Derived.Test.YtjfflnkocajkeaaDoorSGrow
namespace Go.Proofs.YtjfflnkocajkeaaDoor

/-- May it be a fraction? -/
def okB (n d : Int) : Bool := decide (-1000000000000 ≤ n ∧ n ≤ 1000000000000 ∧ 1 ≤ d ∧ d ≤ 1000000)
/-- What Check says. -/
def chk (n d : Int) : Int := if d = 0 then 6 else if okB n d = true then 0 else 1
theorem ok_iff (n d : Int) : okB n d = true ↔ (-1000000000000 ≤ n ∧ n ≤ 1000000000000 ∧ 1 ≤ d ∧ d ≤ 1000000) := by
  unfold okB; exact decide_eq_true_iff
theorem chk_ok {n d : Int} (h : okB n d = true) : chk n d = 0 := by
  have := (ok_iff n d).1 h
  unfold chk; rw [if_neg (by omega), if_pos h]
theorem chk_iff (n d : Int) : chk n d = 0 ↔ okB n d = true := by
  refine ⟨fun h => ?_, chk_ok⟩
  unfold chk at h
  split at h
  · omega
  · split at h
    · assumption
    · omega
/-! Rounding. -/
/-- The way up from below. -/
def upB (n d way : Int) : Bool :=
  if way = 0 then false else if way = 1 then decide (0 < n % d) else if way = 2 then decide (d < 2 * (n % d) ∨ 2 * (n % d) = d ∧ 0 < n) else decide (d < 2 * (n % d) ∨ 2 * (n % d) = d ∧ (n / d) % 2 = 1)
def rnd (n d way : Int) : Int := if upB n d way = true then n / d + 1 else n / d
theorem upB_0 (n d : Int) : upB n d 0 = false := rfl
theorem upB_1 (n d : Int) : upB n d 1 = decide (0 < n % d) := rfl
theorem upB_2 (n d : Int) : upB n d 2 = decide (d < 2 * (n % d) ∨ 2 * (n % d) = d ∧ 0 < n) := rfl
theorem upB_3 (n d : Int) : upB n d 3 = decide (d < 2 * (n % d) ∨ 2 * (n % d) = d ∧ (n / d) % 2 = 1) := rfl
/-- What is there of a division. -/
theorem div_spec (n d : Int) (h : 1 ≤ d) : n = d * (n / d) + n % d ∧ 0 ≤ n % d ∧ n % d < d :=
  ⟨by have := Int.mul_ediv_add_emod n d; omega, Int.emod_nonneg _ (by omega), Int.emod_lt_of_pos _ (by omega)⟩
theorem div_bd (n d b : Int) (h : 1 ≤ d) (h0 : -b ≤ n) (h1 : n ≤ b) : -b - 1 ≤ n / d ∧ n / d ≤ b := by
  obtain ⟨e, r0, r1⟩ := div_spec n d h
  constructor
  · by_cases c : 0 ≤ n / d
    · omega
    · have : d * (n / d) ≤ 1 * (n / d) := Int.mul_le_mul_of_nonpos_right h (by omega)
      by_cases z : n / d = -1
      · omega
      · have : d * (n / d + 1) ≤ 1 * (n / d + 1) := Int.mul_le_mul_of_nonpos_right h (by omega)
        rw [Int.mul_add] at this
        omega
  · by_cases c : n / d ≤ 0
    · omega
    · have : 1 * (n / d) ≤ d * (n / d) := Int.mul_le_mul_of_nonneg_right h (by omega)
      omega
theorem rnd_bd (n d way : Int) : n / d ≤ rnd n d way ∧ rnd n d way ≤ n / d + 1 := by
  unfold rnd; split <;> omega
/-- A quotient is known by its place. -/
theorem div_unique (n d k : Int) (h : 1 ≤ d) (h0 : d * k ≤ n) (h1 : n < d * (k + 1)) : n / d = k ∧ n % d = n - d * k := by
  have e : n / d = k := by
    rw [Int.mul_comm] at h0 h1
    have a : k ≤ n / d := (Int.le_ediv_iff_mul_le (by omega)).2 h0
    have b : n / d < k + 1 := (Int.ediv_lt_iff_lt_mul (by omega)).2 h1
    omega
  refine ⟨e, ?_⟩
  have := Int.mul_ediv_add_emod n d
  rw [e] at this; omega

theorem quo_mono (a b c d x y r s : Int) (hb : 1 ≤ b) (hd : 1 ≤ d) (e1 : a = b * x + r) (e2 : c = d * y + s) (r0 : 0 ≤ r) (s1 : s < d) (h : a * d ≤ c * b) : x ≤ y ∧ (x = y → r * d ≤ s * b) := by
  constructor
  · by_cases c : x ≤ y
    · exact c
    · exfalso
      have : b * d * (y + 1) ≤ b * d * x := Int.mul_le_mul_of_nonneg_left (by omega) (Int.mul_nonneg (by omega) (by omega))
      have : s * b < d * b := Int.mul_lt_mul_of_pos_right s1 (by omega)
      have : 0 ≤ r * d := Int.mul_nonneg r0 (by omega)
      subst e1 e2
      grind
  · intro hxy
    subst hxy e1 e2
    grind
theorem cross_lt (r s b d : Int) (hb : 1 ≤ b) (hd : 1 ≤ d) (h : r * d ≤ s * b) : (b < 2 * r → d < 2 * s) ∧ (b = 2 * r → d ≤ 2 * s) ∧ (0 < r → 0 < s) := by
  refine ⟨fun k => ?_, fun k => ?_, fun k => ?_⟩
  · by_cases c : d < 2 * s
    · exact c
    · have : b * d < 2 * r * d := Int.mul_lt_mul_of_pos_right k (by omega)
      have : 2 * s * b ≤ d * b := Int.mul_le_mul_of_nonneg_right (by omega) (by omega)
      grind
  · by_cases c : d ≤ 2 * s
    · exact c
    · have : 2 * s * b < d * b := Int.mul_lt_mul_of_pos_right (by omega) (by omega)
      subst k
      grind
  · by_cases c : 0 < s
    · exact c
    · have : 0 < r * d := Int.mul_pos k (by omega)
      have : s * b ≤ 0 * b := Int.mul_le_mul_of_nonneg_right (by omega) (by omega)
      grind
theorem way4 {way : Int} (w0 : 0 ≤ way) (w3 : way ≤ 3) : way = 0 ∨ way = 1 ∨ way = 2 ∨ way = 3 := by omega
theorem rnd_mono (a b c d way : Int) (hb : 1 ≤ b) (hd : 1 ≤ d) (h : a * d ≤ c * b) (w0 : 0 ≤ way) (w3 : way ≤ 3) : rnd a b way ≤ rnd c d way := by
  obtain ⟨e1, r1, s1⟩ := div_spec a b hb
  obtain ⟨e2, r2, s2⟩ := div_spec c d hd
  obtain ⟨m1, m2⟩ := quo_mono a b c d _ _ _ _ hb hd e1 e2 r1 s2 h
  have ba := rnd_bd a b way
  have bc := rnd_bd c d way
  by_cases z : a / b < c / d
  · omega
  · have e : a / b = c / d := by omega
    obtain ⟨k1, k2, k3⟩ := cross_lt _ _ b d hb hd (m2 e)
    have up : upB a b way = true → upB c d way = true := by
      rcases way4 w0 w3 with rfl | rfl | rfl | rfl
      · rw [upB_0]; intro h; cases h
      · rw [upB_1, upB_1]; simpa using k3
      · rw [upB_2, upB_2]; simp only [decide_eq_true_eq]
        rintro (h | ⟨h, h'⟩)
        · exact .inl (k1 h)
        · by_cases l : d < 2 * (c % d)
          · exact .inl l
          · refine .inr ⟨by have := k2 h.symm; omega, ?_⟩
            have p : 0 ≤ a / b := Int.ediv_nonneg (by omega) (by omega)
            have p2 : 0 ≤ d * (c / d) := Int.mul_nonneg (by omega) (by omega)
            have := k2 h.symm
            omega
      · rw [upB_3, upB_3]; simp only [decide_eq_true_eq]
        rintro (h | ⟨h, h'⟩)
        · exact .inl (k1 h)
        · by_cases l : d < 2 * (c % d)
          · exact .inl l
          · exact .inr ⟨by have := k2 h.symm; omega, by rw [← e]; exact h'⟩
    unfold rnd
    cases u : upB a b way
    · rw [if_neg (by simp)]; split <;> omega
    · rw [up u]; simp; omega
/-- The other way round. -/
theorem neg_div (a b : Int) (hb : 1 ≤ b) : (a % b = 0 → (-a) / b = -(a / b) ∧ (-a) % b = 0) ∧ (a % b ≠ 0 → (-a) / b = -(a / b) - 1 ∧ (-a) % b = b - a % b) := by
  obtain ⟨e, r, s⟩ := div_spec a b hb
  constructor
  · intro h
    obtain ⟨u, v⟩ := div_unique (-a) b (-(a / b)) hb (by rw [Int.mul_neg]; omega) (by rw [Int.mul_add, Int.mul_neg]; omega)
    rw [u, v, Int.mul_neg]; omega
  · intro h
    obtain ⟨u, v⟩ := div_unique (-a) b (-(a / b) - 1) hb (by rw [Int.mul_sub, Int.mul_neg]; omega) (by rw [show -(a / b) - 1 + 1 = -(a / b) by omega, Int.mul_neg]; omega)
    rw [u, v, Int.mul_sub, Int.mul_neg]; omega
theorem rnd_up_down (a b : Int) (hb : 1 ≤ b) : rnd (-a) b 1 = -(rnd a b 0) := by
  obtain ⟨n1, n2⟩ := neg_div a b hb
  obtain ⟨e, r, s⟩ := div_spec a b hb
  unfold rnd
  rw [upB_0, upB_1]
  by_cases h : a % b = 0
  · rw [(n1 h).1, (n1 h).2]; simp
  · rw [(n2 h).1, (n2 h).2, if_pos (by simp; omega)]; simp
/-- How far it is, twice. -/
theorem rnd_far (a b : Int) (hb : 1 ≤ b) (way : Int) (hw : way = 2 ∨ way = 3) :
    -b ≤ 2 * (rnd a b way * b - a) ∧ 2 * (rnd a b way * b - a) ≤ b ∧ (way = 3 → (2 * (rnd a b way * b - a) = b ∨ 2 * (rnd a b way * b - a) = -b) → rnd a b way % 2 = 0) := by
  obtain ⟨e, r, s⟩ := div_spec a b hb
  have m : a / b * b = b * (a / b) := Int.mul_comm _ _
  rcases hw with rfl | rfl
  · unfold rnd; rw [upB_2]
    by_cases u : b < 2 * (a % b) ∨ 2 * (a % b) = b ∧ 0 < a
    · rw [if_pos (by simpa using u), Int.add_mul]; omega
    · rw [if_neg (by simpa using u)]; omega
  · unfold rnd; rw [upB_3]
    by_cases u : b < 2 * (a % b) ∨ 2 * (a % b) = b ∧ (a / b) % 2 = 1
    · rw [if_pos (by simpa using u), Int.add_mul]; omega
    · rw [if_neg (by simpa using u)]; omega
/-- Go's division, and the one that rounds down. -/
theorem tdiv_neg (n d : Int) (hd : 1 ≤ d) (h : n.tmod d < 0) : n.tdiv d - 1 = n / d ∧ n.tmod d + d = n % d := by
  have e := Int.mul_tdiv_add_tmod n d
  have b : -d < n.tmod d := by have := Int.lt_tmod_of_pos n (show 0 < d by omega); omega
  obtain ⟨u, v⟩ := div_unique n d (n.tdiv d - 1) hd (by rw [Int.mul_sub]; omega) (by rw [show n.tdiv d - 1 + 1 = n.tdiv d by omega]; omega)
  rw [u, v, Int.mul_sub]; omega
theorem tdiv_pos (n d : Int) (hd : 1 ≤ d) (h : 0 ≤ n.tmod d) : n.tdiv d = n / d ∧ n.tmod d = n % d := by
  have e := Int.mul_tdiv_add_tmod n d
  have b := Int.tmod_lt_of_pos n (show 0 < d by omega)
  obtain ⟨u, v⟩ := div_unique n d (n.tdiv d) hd (by omega) (by rw [Int.mul_add]; omega)
  rw [u, v]; omega
theorem tdiv_bd (n d b : Int) (hd : 1 ≤ d) (h0 : -b ≤ n) (h1 : n ≤ b) : -b - 1 ≤ n.tdiv d ∧ n.tdiv d ≤ b + 1 ∧ -d < n.tmod d ∧ n.tmod d < d := by
  have e := Int.mul_tdiv_add_tmod n d
  have b1 := Int.tmod_lt_of_pos n (show 0 < d by omega)
  have b2 : -d < n.tmod d := by have := Int.lt_tmod_of_pos n (show 0 < d by omega); omega
  have db := div_bd n d b hd h0 h1
  by_cases c : n.tmod d < 0
  · have := (tdiv_neg n d hd c).1; omega
  · have := (tdiv_pos n d hd (by omega)).1; omega

/-- The quotient that rounds down is known by its place. -/
theorem place (n d k : Int) (hd : 1 ≤ d) : (n < k * d ↔ n / d < k) := by
  rw [Int.ediv_lt_iff_lt_mul (by omega)]
theorem rest_eq (n d : Int) : n - n / d * d = n % d := by
  have := Int.mul_ediv_add_emod n d
  rw [Int.mul_comm] at this; omega
theorem mul_bd2 (n d k : Int) (hd : 1 ≤ d) (hd2 : d ≤ 2000000) (h1 : -1000000000000000000 ≤ n) (h2 : n ≤ 1000000000000000000) (k0 : n / d - 1 ≤ k) (k1 : k ≤ n / d + 2) : -2000000000000000000 ≤ k * d ∧ k * d ≤ 2000000000000000000 := by
  obtain ⟨e, r, s⟩ := div_spec n d hd
  have l : (n / d - 1) * d ≤ k * d := Int.mul_le_mul_of_nonneg_right k0 (by omega)
  have u : k * d ≤ (n / d + 2) * d := Int.mul_le_mul_of_nonneg_right k1 (by omega)
  rw [Int.sub_mul, Int.mul_comm] at l
  rw [Int.add_mul, Int.mul_comm (n / d)] at u
  omega

/-- What the switch of Round answers, by the place and the rest. -/
def Switch (n d way low rest : Int) (v : Int) : Prop :=
  (rest = 0 ∨ way = 0) ∧ v = low ∨ ¬ rest = 0 ∧ (way = 1 ∧ v = low + 1 ∨ (way = 2 ∨ way = 3) ∧ (2 * rest < d ∧ v = low ∨ d < 2 * rest ∧ v = low + 1 ∨ 2 * rest = d ∧ (way = 3 ∧ v = low + low % 2 ∨ way = 2 ∧ (0 < n ∧ v = low + 1 ∨ ¬ 0 < n ∧ v = low))))
theorem switch_rnd (n d way : Int) (hd : 1 ≤ d) (w0 : 0 ≤ way) (w3 : way ≤ 3) : Switch n d way (n / d) (n % d) (rnd n d way) := by
  obtain ⟨e, r, s⟩ := div_spec n d hd
  unfold Switch rnd
  rcases way4 w0 w3 with rfl | rfl | rfl | rfl
  · rw [upB_0]; simp
  · rw [upB_1]
    by_cases h : n % d = 0
    · rw [if_neg (by simp; omega)]; simp [h]
    · rw [if_pos (by simp; omega)]; simp [h]
  · rw [upB_2]
    by_cases h : n % d = 0
    · rw [if_neg (by simp; omega)]; simp [h]
    · by_cases u : d < 2 * (n % d) ∨ 2 * (n % d) = d ∧ 0 < n
      · rw [if_pos (by simpa using u)]; right; refine ⟨h, .inr ⟨.inl rfl, ?_⟩⟩; omega
      · rw [if_neg (by simpa using u)]; right; refine ⟨h, .inr ⟨.inl rfl, ?_⟩⟩; omega
  · rw [upB_3]
    by_cases h : n % d = 0
    · rw [if_neg (by simp; omega)]; simp [h]
    · by_cases u : d < 2 * (n % d) ∨ 2 * (n % d) = d ∧ (n / d) % 2 = 1
      · rw [if_pos (by simpa using u)]; right; refine ⟨h, .inr ⟨.inr rfl, ?_⟩⟩; omega
      · rw [if_neg (by simpa using u)]; right; refine ⟨h, .inr ⟨.inr rfl, ?_⟩⟩; omega

/-- Less, equal, greater. -/
def cmM (x y : Int) : Int := if x < y then -1 else if y < x then 1 else 0
theorem cmM_cases (x y : Int) : (x < y ∧ cmM x y = -1) ∨ (x = y ∧ cmM x y = 0) ∨ (y < x ∧ cmM x y = 1) := by
  unfold cmM
  rcases (show x < y ∨ x = y ∨ y < x by omega) with h | h | h
  · left; exact ⟨h, by rw [if_pos h]⟩
  · right; left; exact ⟨h, by rw [if_neg (by omega), if_neg (by omega)]⟩
  · right; right; exact ⟨h, by rw [if_neg (by omega), if_pos h]⟩
/-- The quarters of a rest. -/
def qrt (r d : Int) : Int := if 0 < r then 2 + cmM (2 * r) d else if r < 0 then -(2 + cmM (2 * (-r)) d) else 0
theorem qrt_bd (r d : Int) : -3 ≤ qrt r d ∧ qrt r d ≤ 3 := by
  have a := cmM_cases (2 * r) d
  have b := cmM_cases (2 * (-r)) d
  unfold qrt
  split
  · omega
  · split <;> omega
theorem tmod2 (k : Int) : (0 ≤ k ∧ k.tmod 2 = k % 2) ∨ (k ≤ 0 ∧ k.tmod 2 = -((-k) % 2)) := by
  by_cases h : 0 ≤ k
  · left; exact ⟨h, Int.tmod_eq_emod_of_nonneg h⟩
  · right
    refine ⟨by omega, ?_⟩
    have : (-k).tmod 2 = (-k) % 2 := Int.tmod_eq_emod_of_nonneg (by omega)
    rw [Int.neg_tmod] at this
    omega
theorem rnd_case (n d way f r : Int) (e1 : n / d = f) (e2 : n % d = r) (w0 : 0 ≤ way) (w3 : way ≤ 3) :
    (rnd n d way = f ∧ (way = 0 ∨ way = 1 ∧ ¬ 0 < r ∨ way = 2 ∧ ¬ (d < 2 * r ∨ 2 * r = d ∧ 0 < n) ∨ way = 3 ∧ ¬ (d < 2 * r ∨ 2 * r = d ∧ f % 2 = 1))) ∨
    (rnd n d way = f + 1 ∧ (way = 1 ∧ 0 < r ∨ way = 2 ∧ (d < 2 * r ∨ 2 * r = d ∧ 0 < n) ∨ way = 3 ∧ (d < 2 * r ∨ 2 * r = d ∧ f % 2 = 1))) := by
  subst e1; subst e2
  unfold rnd
  rcases way4 w0 w3 with rfl | rfl | rfl | rfl
  · rw [upB_0]; left; exact ⟨rfl, .inl rfl⟩
  · rw [upB_1]
    by_cases u : 0 < n % d
    · rw [if_pos (by simpa using u)]; right; exact ⟨rfl, .inl ⟨rfl, u⟩⟩
    · rw [if_neg (by simpa using u)]; left; exact ⟨rfl, .inr (.inl ⟨rfl, u⟩)⟩
  · rw [upB_2]
    by_cases u : d < 2 * (n % d) ∨ 2 * (n % d) = d ∧ 0 < n
    · rw [if_pos (by simpa using u)]; right; exact ⟨rfl, .inr (.inl ⟨rfl, u⟩)⟩
    · rw [if_neg (by simpa using u)]; left; exact ⟨rfl, .inr (.inr (.inl ⟨rfl, u⟩))⟩
  · rw [upB_3]
    by_cases u : d < 2 * (n % d) ∨ 2 * (n % d) = d ∧ (n / d) % 2 = 1
    · rw [if_pos (by simpa using u)]; right; exact ⟨rfl, .inr (.inr ⟨rfl, u⟩)⟩
    · rw [if_neg (by simpa using u)]; left; exact ⟨rfl, .inr (.inr (.inr ⟨rfl, u⟩))⟩
/-- All that matters to a mode is the sign, whether the whole number is even, and the quarters of the rest. -/
theorem quot_eq (n d way : Int) (hd : 1 ≤ d) (w0 : 0 ≤ way) (w3 : way ≤ 3) :
    n.tdiv d - (n.tdiv d).tmod 2 + rnd (4 * (n.tdiv d).tmod 2 + qrt (n.tmod d) d) 4 way = rnd n d way := by
  obtain ⟨e, r0, r1⟩ := div_spec n d hd
  have nz : n % d ≠ 0 → n ≠ 0 := fun h z => h (by rw [z]; simp)
  have sg : (0 ≤ n → 0 ≤ n / d) ∧ (n < 0 → n / d < 0) :=
    ⟨fun h => Int.ediv_nonneg h (by omega), fun h => Int.ediv_neg_of_neg_of_pos h (by omega)⟩
  have R := rnd_case n d way (n / d) (n % d) rfl rfl w0 w3
  generalize hX : 4 * (n.tdiv d).tmod 2 + qrt (n.tmod d) d = X
  have S := rnd_case X 4 way (X / 4) (X % 4) rfl rfl w0 w3
  have t2 := tmod2 (n.tdiv d)
  have c1 := cmM_cases (2 * n.tmod d) d
  have c2 := cmM_cases (2 * (-n.tmod d)) d
  unfold qrt at hX
  generalize rnd n d way = A at *
  generalize rnd X 4 way = B at *
  generalize cmM (2 * n.tmod d) d = c at *
  generalize cmM (2 * (-n.tmod d)) d = c' at *
  by_cases hr : n.tmod d < 0
  · obtain ⟨a, b⟩ := tdiv_neg n d hd hr
    have ng : n < 0 := by
      by_cases z : n < 0
      · exact z
      · have := Int.tmod_nonneg d (show 0 ≤ n by omega); omega
    have s2 := sg.2 ng
    have tb : -d < n.tmod d := by have := Int.lt_tmod_of_pos n (show 0 < d by omega); omega
    rw [if_neg (by omega), if_pos hr] at hX
    generalize n.tdiv d = W at *
    generalize n.tmod d = T at *
    generalize n / d = f at *
    generalize n % d = r at *
    generalize W.tmod 2 = o at *
    clear e
    obtain rfl : f = W - 1 := by omega
    obtain rfl : T = r - d := by omega
    have to2 : o = -((-W) % 2) := by omega
    have oo : (o = 0 ∧ W % 2 = 0) ∨ (o = -1 ∧ W % 2 = 1) := by omega
    have xx : X / 4 = o - 1 ∧ X % 4 = 2 - c' := by omega
    have c3 : (d < 2 * r ∧ c' = -1) ∨ (2 * r = d ∧ c' = 0) ∨ (2 * r < d ∧ c' = 1) := by omega
    have xn : ¬ 0 < X := by omega
    have nn : ¬ 0 < n := by omega
    have rp : 0 < r := by omega
    rw [xx.1, xx.2] at S
    clear t2 c1 sg nz c2 hX to2 xx ng b s2
    rcases oo with ⟨rfl, o2⟩ | ⟨rfl, o2⟩ <;> rcases c3 with ⟨c3, rfl⟩ | ⟨c3, rfl⟩ | ⟨c3, rfl⟩ <;> omega
  · obtain ⟨a, b⟩ := tdiv_pos n d hd (by omega)
    have np : 0 < n.tmod d → 0 ≤ n / d ∧ 0 < n := by
      intro h
      by_cases z : 0 ≤ n
      · exact ⟨sg.1 z, by by_cases y : n = 0
                          · rw [y] at h; simp at h
                          · omega⟩
      · have := Int.tmod_nonneg d (show 0 ≤ -n by omega)
        rw [Int.neg_tmod] at this; omega
    generalize n.tdiv d = W at *
    generalize n.tmod d = T at *
    generalize n / d = f at *
    generalize n % d = r at *
    generalize W.tmod 2 = o at *
    clear e
    subst a b
    by_cases tz : 0 < T
    · rw [if_pos tz] at hX
      have np := np tz
      have oo : o = W % 2 := by omega
      have xx : X / 4 = o ∧ X % 4 = 2 + c := by omega
      have xp : 0 < X := by omega
      rw [xx.1, xx.2] at S
      clear c2 t2 hX sg nz xx
      rcases c1 with ⟨c3, rfl⟩ | ⟨c3, rfl⟩ | ⟨c3, rfl⟩ <;> omega
    · rw [if_neg tz, if_neg hr] at hX
      obtain rfl : T = 0 := by omega
      clear c1 c2
      omega

theorem rnd_whole (k d way : Int) (hd : 1 ≤ d) (w0 : 0 ≤ way) (w3 : way ≤ 3) : rnd (k * d) d way = k := by
  have e1 : k * d / d = k := Int.mul_ediv_cancel _ (by omega)
  have e2 : k * d % d = 0 := Int.mul_emod_left _ _
  rcases rnd_case (k * d) d way k 0 e1 e2 w0 w3 with ⟨h, _⟩ | ⟨_, h⟩
  · exact h
  · omega
/-- Less than one away. -/
theorem rnd_off (n d way : Int) (hd : 1 ≤ d) (w0 : 0 ≤ way) (w3 : way ≤ 3) : rnd n d way * d - n < d ∧ n - rnd n d way * d < d := by
  obtain ⟨e, r0, r1⟩ := div_spec n d hd
  have m : n / d * d = d * (n / d) := Int.mul_comm _ _
  rcases rnd_case n d way _ _ rfl rfl w0 w3 with ⟨h, _⟩ | ⟨h, c⟩
  · rw [h]; omega
  · rw [h, Int.add_mul]; omega
/-- A whole number and less than a half. -/
theorem rnd_half (k e d way : Int) (hd : 1 ≤ d) (hw : way = 2 ∨ way = 3) (h1 : -d < 2 * e) (h2 : 2 * e < d) : rnd (k * d + e) d way = k := by
  obtain ⟨a, b, _⟩ := rnd_far (k * d + e) d hd way hw
  generalize rnd (k * d + e) d way = x at *
  have m : x * d - (k * d + e) = (x - k) * d - e := by rw [Int.sub_mul]; omega
  rw [m] at a b
  by_cases c : x = k
  · exact c
  · exfalso
    rcases (show 1 ≤ x - k ∨ x - k ≤ -1 by omega) with z | z
    · have : 1 * d ≤ (x - k) * d := Int.mul_le_mul_of_nonneg_right z (by omega)
      omega
    · have : (x - k) * d ≤ -1 * d := Int.mul_le_mul_of_nonneg_right z (by omega)
      omega
/-- What a tax is added to comes back. -/
theorem tax_back (net rate way : Int) (r0 : 0 ≤ rate) (hw : way = 2 ∨ way = 3) :
    rnd ((net + rnd (net * rate) 1000000 way) * 1000000) (1000000 + rate) way = net := by
  obtain ⟨a, b, _⟩ := rnd_far (net * rate) 1000000 (by omega) way hw
  have z : rate = 0 → rnd (net * rate) 1000000 way = 0 := by
    intro z; subst z
    have := rnd_whole 0 1000000 way (by omega) (by omega) (by omega)
    simpa using this
  generalize rnd (net * rate) 1000000 way = t at *
  have e : (net + t) * 1000000 = net * (1000000 + rate) + (t * 1000000 - net * rate) := by
    rw [Int.add_mul, Int.mul_add]; omega
  rw [e]
  by_cases c : rate = 0
  · have := z c
    subst c this
    refine rnd_half net _ _ way (by omega) hw (by simp) (by simp)
  · exact rnd_half net _ _ way (by omega) hw (by omega) (by omega)
theorem rnd_nonneg (n d way : Int) (hd : 1 ≤ d) (n0 : 0 ≤ n) (w0 : 0 ≤ way) (w3 : way ≤ 3) : 0 ≤ rnd n d way := by
  have := rnd_mono 0 1 n d way (by omega) hd (by omega) w0 w3
  have e := rnd_whole 0 1 way (by omega) w0 w3
  simp only [Int.zero_mul] at e
  omega
theorem rnd_le (n d way k : Int) (hd : 1 ≤ d) (h : n ≤ k * d) (w0 : 0 ≤ way) (w3 : way ≤ 3) : rnd n d way ≤ k := by
  have := rnd_mono n d (k * d) d way hd hd (Int.mul_le_mul_of_nonneg_right h (by omega)) w0 w3
  rw [rnd_whole k d way hd w0 w3] at this
  exact this
theorem rnd_ge (n d way k : Int) (hd : 1 ≤ d) (h : k * d ≤ n) (w0 : 0 ≤ way) (w3 : way ≤ 3) : k ≤ rnd n d way := by
  have := rnd_mono (k * d) d n d way hd hd (Int.mul_le_mul_of_nonneg_right h (by omega)) w0 w3
  rw [rnd_whole k d way hd w0 w3] at this
  exact this
/-- Shares of parts. -/
theorem parts_off (p : Nat → Int) (rate way : Int) (n : Nat) (w0 : 0 ≤ way) (w3 : way ≤ 3) :
    sumTo (fun i => rnd (p i * rate) 1000000 way) n * 1000000 - sumTo p n * rate ≤ 999999 * n ∧ sumTo p n * rate - sumTo (fun i => rnd (p i * rate) 1000000 way) n * 1000000 ≤ 999999 * n := by
  induction n with
  | zero => simp [sumTo]
  | succ n ih =>
    have o := rnd_off (p n * rate) 1000000 way (by omega) w0 w3
    rw [sumTo, sumTo, Int.add_mul, Int.add_mul]
    generalize rnd (p n * rate) 1000000 way = x at *
    omega
theorem parts_near (p : Nat → Int) (rate way amount : Int) (n : Nat) (hs : sumTo p n = amount) (w0 : 0 ≤ way) (w3 : way ≤ 3) :
    sumTo (fun i => rnd (p i * rate) 1000000 way) n - rnd (amount * rate) 1000000 way ≤ n ∧ rnd (amount * rate) 1000000 way - sumTo (fun i => rnd (p i * rate) 1000000 way) n ≤ n := by
  have a := parts_off p rate way n w0 w3
  have o := rnd_off (amount * rate) 1000000 way (by omega) w0 w3
  rw [hs] at a
  omega

end Go.Proofs.YtjfflnkocajkeaaDoor
