import Derived.Test.YtklbikifcebckaaLawSplitSum
import Derived.OwnWalk
/-
  Plain mathematics of money: rounding of a quotient, by the quarters of its rest; shares and taxes. No condition but those that each theorem names.
-/
namespace Go.Proofs.Ytklbikifcebckaa

/-- May it be a fraction? -/
def okB (n d : Int) : Bool := decide (-1000000000000 ≤ n ∧ n ≤ 1000000000000 ∧ 1 ≤ d ∧ d ≤ 1000000)
/-- What Check says. -/
def chk (n d : Int) : Int := if d = 0 then 6 else if okB n d = true then 0 else 1
theorem ok_iff (n d : Int) : okB n d = true ↔ (-1000000000000 ≤ n ∧ n ≤ 1000000000000 ∧ 1 ≤ d ∧ d ≤ 1000000) := by
  unfold okB; exact decide_eq_true_iff
theorem chk_ok {n d : Int} (h : okB n d = true) : chk n d = 0 := by
  have := (ok_iff n d).1 h
  unfold chk; rw [if_neg (by omega), if_pos h]
theorem chk_iff (n d : Int) : chk n d = 0 ↔ okB n d = true := by
  refine ⟨fun h => ?_, chk_ok⟩
  unfold chk at h
  split at h
  · omega
  · split at h
    · assumption
    · omega
/-! Rounding. -/
/-- The way up from below. -/
def upB (n d way : Int) : Bool :=
  if way = 0 then false else if way = 1 then decide (0 < n % d) else if way = 2 then decide (d < 2 * (n % d) ∨ 2 * (n % d) = d ∧ 0 < n) else decide (d < 2 * (n % d) ∨ 2 * (n % d) = d ∧ (n / d) % 2 = 1)
def rnd (n d way : Int) : Int := if upB n d way = true then n / d + 1 else n / d
theorem upB_0 (n d : Int) : upB n d 0 = false := rfl
theorem upB_1 (n d : Int) : upB n d 1 = decide (0 < n % d) := rfl
theorem upB_2 (n d : Int) : upB n d 2 = decide (d < 2 * (n % d) ∨ 2 * (n % d) = d ∧ 0 < n) := rfl
theorem upB_3 (n d : Int) : upB n d 3 = decide (d < 2 * (n % d) ∨ 2 * (n % d) = d ∧ (n / d) % 2 = 1) := rfl
/-- What is there of a division. -/
theorem div_spec (n d : Int) (h : 1 ≤ d) : n = d * (n / d) + n % d ∧ 0 ≤ n % d ∧ n % d < d :=
  ⟨by have := Int.mul_ediv_add_emod n d; omega, Int.emod_nonneg _ (by omega), Int.emod_lt_of_pos _ (by omega)⟩
theorem div_bd (n d b : Int) (h : 1 ≤ d) (h0 : -b ≤ n) (h1 : n ≤ b) : -b - 1 ≤ n / d ∧ n / d ≤ b := by
  obtain ⟨e, r0, r1⟩ := div_spec n d h
  constructor
  · by_cases c : 0 ≤ n / d
    · omega
    · have : d * (n / d) ≤ 1 * (n / d) := Int.mul_le_mul_of_nonpos_right h (by omega)
      by_cases z : n / d = -1
      · omega
      · have : d * (n / d + 1) ≤ 1 * (n / d + 1) := Int.mul_le_mul_of_nonpos_right h (by omega)
        rw [Int.mul_add] at this
        omega
  · by_cases c : n / d ≤ 0
    · omega
    · have : 1 * (n / d) ≤ d * (n / d) := Int.mul_le_mul_of_nonneg_right h (by omega)
      omega
theorem rnd_bd (n d way : Int) : n / d ≤ rnd n d way ∧ rnd n d way ≤ n / d + 1 := by
  unfold rnd; split <;> omega
/-- A quotient is known by its place. -/
theorem div_unique (n d k : Int) (h : 1 ≤ d) (h0 : d * k ≤ n) (h1 : n < d * (k + 1)) : n / d = k ∧ n % d = n - d * k := by
  have e : n / d = k := by
    rw [Int.mul_comm] at h0 h1
    have a : k ≤ n / d := (Int.le_ediv_iff_mul_le (by omega)).2 h0
    have b : n / d < k + 1 := (Int.ediv_lt_iff_lt_mul (by omega)).2 h1
    omega
  refine ⟨e, ?_⟩
  have := Int.mul_ediv_add_emod n d
  rw [e] at this; omega

theorem quo_mono (a b c d x y r s : Int) (hb : 1 ≤ b) (hd : 1 ≤ d) (e1 : a = b * x + r) (e2 : c = d * y + s) (r0 : 0 ≤ r) (s1 : s < d) (h : a * d ≤ c * b) : x ≤ y ∧ (x = y → r * d ≤ s * b) := by
  constructor
  · by_cases c : x ≤ y
    · exact c
    · exfalso
      have : b * d * (y + 1) ≤ b * d * x := Int.mul_le_mul_of_nonneg_left (by omega) (Int.mul_nonneg (by omega) (by omega))
      have : s * b < d * b := Int.mul_lt_mul_of_pos_right s1 (by omega)
      have : 0 ≤ r * d := Int.mul_nonneg r0 (by omega)
      subst e1 e2
      grind
  · intro hxy
    subst hxy e1 e2
    grind
theorem cross_lt (r s b d : Int) (hb : 1 ≤ b) (hd : 1 ≤ d) (h : r * d ≤ s * b) : (b < 2 * r → d < 2 * s) ∧ (b = 2 * r → d ≤ 2 * s) ∧ (0 < r → 0 < s) := by
  refine ⟨fun k => ?_, fun k => ?_, fun k => ?_⟩
  · by_cases c : d < 2 * s
    · exact c
    · have : b * d < 2 * r * d := Int.mul_lt_mul_of_pos_right k (by omega)
      have : 2 * s * b ≤ d * b := Int.mul_le_mul_of_nonneg_right (by omega) (by omega)
      grind
  · by_cases c : d ≤ 2 * s
    · exact c
    · have : 2 * s * b < d * b := Int.mul_lt_mul_of_pos_right (by omega) (by omega)
      subst k
      grind
  · by_cases c : 0 < s
    · exact c
    · have : 0 < r * d := Int.mul_pos k (by omega)
      have : s * b ≤ 0 * b := Int.mul_le_mul_of_nonneg_right (by omega) (by omega)
      grind
theorem way4 {way : Int} (w0 : 0 ≤ way) (w3 : way ≤ 3) : way = 0 ∨ way = 1 ∨ way = 2 ∨ way = 3 := by omega
theorem rnd_mono (a b c d way : Int) (hb : 1 ≤ b) (hd : 1 ≤ d) (h : a * d ≤ c * b) (w0 : 0 ≤ way) (w3 : way ≤ 3) : rnd a b way ≤ rnd c d way := by
  obtain ⟨e1, r1, s1⟩ := div_spec a b hb
  obtain ⟨e2, r2, s2⟩ := div_spec c d hd
  obtain ⟨m1, m2⟩ := quo_mono a b c d _ _ _ _ hb hd e1 e2 r1 s2 h
  have ba := rnd_bd a b way
  have bc := rnd_bd c d way
  by_cases z : a / b < c / d
  · omega
  · have e : a / b = c / d := by omega
    obtain ⟨k1, k2, k3⟩ := cross_lt _ _ b d hb hd (m2 e)
    have up : upB a b way = true → upB c d way = true := by
      rcases way4 w0 w3 with rfl | rfl | rfl | rfl
      · rw [upB_0]; intro h; cases h
      · rw [upB_1, upB_1]; simpa using k3
      · rw [upB_2, upB_2]; simp only [decide_eq_true_eq]
        rintro (h | ⟨h, h'⟩)
        · exact .inl (k1 h)
        · by_cases l : d < 2 * (c % d)
          · exact .inl l
          · refine .inr ⟨by have := k2 h.symm; omega, ?_⟩
            have p : 0 ≤ a / b := Int.ediv_nonneg (by omega) (by omega)
            have p2 : 0 ≤ d * (c / d) := Int.mul_nonneg (by omega) (by omega)
            have := k2 h.symm
            omega
      · rw [upB_3, upB_3]; simp only [decide_eq_true_eq]
        rintro (h | ⟨h, h'⟩)
        · exact .inl (k1 h)
        · by_cases l : d < 2 * (c % d)
          · exact .inl l
          · exact .inr ⟨by have := k2 h.symm; omega, by rw [← e]; exact h'⟩
    unfold rnd
    cases u : upB a b way
    · rw [if_neg (by simp)]; split <;> omega
    · rw [up u]; simp; omega
/-- The other way round. -/
theorem neg_div (a b : Int) (hb : 1 ≤ b) : (a % b = 0 → (-a) / b = -(a / b) ∧ (-a) % b = 0) ∧ (a % b ≠ 0 → (-a) / b = -(a / b) - 1 ∧ (-a) % b = b - a % b) := by
  obtain ⟨e, r, s⟩ := div_spec a b hb
  constructor
  · intro h
    obtain ⟨u, v⟩ := div_unique (-a) b (-(a / b)) hb (by rw [Int.mul_neg]; omega) (by rw [Int.mul_add, Int.mul_neg]; omega)
    rw [u, v, Int.mul_neg]; omega
  · intro h
    obtain ⟨u, v⟩ := div_unique (-a) b (-(a / b) - 1) hb (by rw [Int.mul_sub, Int.mul_neg]; omega) (by rw [show -(a / b) - 1 + 1 = -(a / b) by omega, Int.mul_neg]; omega)
    rw [u, v, Int.mul_sub, Int.mul_neg]; omega
theorem rnd_up_down (a b : Int) (hb : 1 ≤ b) : rnd (-a) b 1 = -(rnd a b 0) := by
  obtain ⟨n1, n2⟩ := neg_div a b hb
  obtain ⟨e, r, s⟩ := div_spec a b hb
  unfold rnd
  rw [upB_0, upB_1]
  by_cases h : a % b = 0
  · rw [(n1 h).1, (n1 h).2]; simp
  · rw [(n2 h).1, (n2 h).2, if_pos (by simp; omega)]; simp
/-- How far it is, twice. -/
theorem rnd_far (a b : Int) (hb : 1 ≤ b) (way : Int) (hw : way = 2 ∨ way = 3) :
    -b ≤ 2 * (rnd a b way * b - a) ∧ 2 * (rnd a b way * b - a) ≤ b ∧ (way = 3 → (2 * (rnd a b way * b - a) = b ∨ 2 * (rnd a b way * b - a) = -b) → rnd a b way % 2 = 0) := by
  obtain ⟨e, r, s⟩ := div_spec a b hb
  have m : a / b * b = b * (a / b) := Int.mul_comm _ _
  rcases hw with rfl | rfl
  · unfold rnd; rw [upB_2]
    by_cases u : b < 2 * (a % b) ∨ 2 * (a % b) = b ∧ 0 < a
    · rw [if_pos (by simpa using u), Int.add_mul]; omega
    · rw [if_neg (by simpa using u)]; omega
  · unfold rnd; rw [upB_3]
    by_cases u : b < 2 * (a % b) ∨ 2 * (a % b) = b ∧ (a / b) % 2 = 1
    · rw [if_pos (by simpa using u), Int.add_mul]; omega
    · rw [if_neg (by simpa using u)]; omega
/-- Go's division, and the one that rounds down. -/
theorem tdiv_neg (n d : Int) (hd : 1 ≤ d) (h : n.tmod d < 0) : n.tdiv d - 1 = n / d ∧ n.tmod d + d = n % d := by
  have e := Int.mul_tdiv_add_tmod n d
  have b : -d < n.tmod d := by have := Int.lt_tmod_of_pos n (show 0 < d by omega); omega
  obtain ⟨u, v⟩ := div_unique n d (n.tdiv d - 1) hd (by rw [Int.mul_sub]; omega) (by rw [show n.tdiv d - 1 + 1 = n.tdiv d by omega]; omega)
  rw [u, v, Int.mul_sub]; omega
theorem tdiv_pos (n d : Int) (hd : 1 ≤ d) (h : 0 ≤ n.tmod d) : n.tdiv d = n / d ∧ n.tmod d = n % d := by
  have e := Int.mul_tdiv_add_tmod n d
  have b := Int.tmod_lt_of_pos n (show 0 < d by omega)
  obtain ⟨u, v⟩ := div_unique n d (n.tdiv d) hd (by omega) (by rw [Int.mul_add]; omega)
  rw [u, v]; omega
theorem tdiv_bd (n d b : Int) (hd : 1 ≤ d) (h0 : -b ≤ n) (h1 : n ≤ b) : -b - 1 ≤ n.tdiv d ∧ n.tdiv d ≤ b + 1 ∧ -d < n.tmod d ∧ n.tmod d < d := by
  have e := Int.mul_tdiv_add_tmod n d
  have b1 := Int.tmod_lt_of_pos n (show 0 < d by omega)
  have b2 : -d < n.tmod d := by have := Int.lt_tmod_of_pos n (show 0 < d by omega); omega
  have db := div_bd n d b hd h0 h1
  by_cases c : n.tmod d < 0
  · have := (tdiv_neg n d hd c).1; omega
  · have := (tdiv_pos n d hd (by omega)).1; omega

/-- The quotient that rounds down is known by its place. -/
theorem place (n d k : Int) (hd : 1 ≤ d) : (n < k * d ↔ n / d < k) := by
  rw [Int.ediv_lt_iff_lt_mul (by omega)]
theorem rest_eq (n d : Int) : n - n / d * d = n % d := by
  have := Int.mul_ediv_add_emod n d
  rw [Int.mul_comm] at this; omega
theorem mul_bd2 (n d k : Int) (hd : 1 ≤ d) (hd2 : d ≤ 2000000) (h1 : -1000000000000000000 ≤ n) (h2 : n ≤ 1000000000000000000) (k0 : n / d - 1 ≤ k) (k1 : k ≤ n / d + 2) : -2000000000000000000 ≤ k * d ∧ k * d ≤ 2000000000000000000 := by
  obtain ⟨e, r, s⟩ := div_spec n d hd
  have l : (n / d - 1) * d ≤ k * d := Int.mul_le_mul_of_nonneg_right k0 (by omega)
  have u : k * d ≤ (n / d + 2) * d := Int.mul_le_mul_of_nonneg_right k1 (by omega)
  rw [Int.sub_mul, Int.mul_comm] at l
  rw [Int.add_mul, Int.mul_comm (n / d)] at u
  omega

/-- What the switch of Round answers, by the place and the rest. -/
def Switch (n d way low rest : Int) (v : Int) : Prop :=
  (rest = 0 ∨ way = 0) ∧ v = low ∨ ¬ rest = 0 ∧ (way = 1 ∧ v = low + 1 ∨ (way = 2 ∨ way = 3) ∧ (2 * rest < d ∧ v = low ∨ d < 2 * rest ∧ v = low + 1 ∨ 2 * rest = d ∧ (way = 3 ∧ v = low + low % 2 ∨ way = 2 ∧ (0 < n ∧ v = low + 1 ∨ ¬ 0 < n ∧ v = low))))
theorem switch_rnd (n d way : Int) (hd : 1 ≤ d) (w0 : 0 ≤ way) (w3 : way ≤ 3) : Switch n d way (n / d) (n % d) (rnd n d way) := by
  obtain ⟨e, r, s⟩ := div_spec n d hd
  unfold Switch rnd
  rcases way4 w0 w3 with rfl | rfl | rfl | rfl
  · rw [upB_0]; simp
  · rw [upB_1]
    by_cases h : n % d = 0
    · rw [if_neg (by simp; omega)]; simp [h]
    · rw [if_pos (by simp; omega)]; simp [h]
  · rw [upB_2]
    by_cases h : n % d = 0
    · rw [if_neg (by simp; omega)]; simp [h]
    · by_cases u : d < 2 * (n % d) ∨ 2 * (n % d) = d ∧ 0 < n
      · rw [if_pos (by simpa using u)]; right; refine ⟨h, .inr ⟨.inl rfl, ?_⟩⟩; omega
      · rw [if_neg (by simpa using u)]; right; refine ⟨h, .inr ⟨.inl rfl, ?_⟩⟩; omega
  · rw [upB_3]
    by_cases h : n % d = 0
    · rw [if_neg (by simp; omega)]; simp [h]
    · by_cases u : d < 2 * (n % d) ∨ 2 * (n % d) = d ∧ (n / d) % 2 = 1
      · rw [if_pos (by simpa using u)]; right; refine ⟨h, .inr ⟨.inr rfl, ?_⟩⟩; omega
      · rw [if_neg (by simpa using u)]; right; refine ⟨h, .inr ⟨.inr rfl, ?_⟩⟩; omega

/-- Less, equal, greater. -/
def cmM (x y : Int) : Int := if x < y then -1 else if y < x then 1 else 0
theorem cmM_cases (x y : Int) : (x < y ∧ cmM x y = -1) ∨ (x = y ∧ cmM x y = 0) ∨ (y < x ∧ cmM x y = 1) := by
  unfold cmM
  rcases (show x < y ∨ x = y ∨ y < x by omega) with h | h | h
  · left; exact ⟨h, by rw [if_pos h]⟩
  · right; left; exact ⟨h, by rw [if_neg (by omega), if_neg (by omega)]⟩
  · right; right; exact ⟨h, by rw [if_neg (by omega), if_pos h]⟩
/-- The quarters of a rest. -/
def qrt (r d : Int) : Int := if 0 < r then 2 + cmM (2 * r) d else if r < 0 then -(2 + cmM (2 * (-r)) d) else 0
theorem qrt_bd (r d : Int) : -3 ≤ qrt r d ∧ qrt r d ≤ 3 := by
  have a := cmM_cases (2 * r) d
  have b := cmM_cases (2 * (-r)) d
  unfold qrt
  split
  · omega
  · split <;> omega
theorem tmod2 (k : Int) : (0 ≤ k ∧ k.tmod 2 = k % 2) ∨ (k ≤ 0 ∧ k.tmod 2 = -((-k) % 2)) := by
  by_cases h : 0 ≤ k
  · left; exact ⟨h, Int.tmod_eq_emod_of_nonneg h⟩
  · right
    refine ⟨by omega, ?_⟩
    have : (-k).tmod 2 = (-k) % 2 := Int.tmod_eq_emod_of_nonneg (by omega)
    rw [Int.neg_tmod] at this
    omega
theorem rnd_case (n d way f r : Int) (e1 : n / d = f) (e2 : n % d = r) (w0 : 0 ≤ way) (w3 : way ≤ 3) :
    (rnd n d way = f ∧ (way = 0 ∨ way = 1 ∧ ¬ 0 < r ∨ way = 2 ∧ ¬ (d < 2 * r ∨ 2 * r = d ∧ 0 < n) ∨ way = 3 ∧ ¬ (d < 2 * r ∨ 2 * r = d ∧ f % 2 = 1))) ∨
    (rnd n d way = f + 1 ∧ (way = 1 ∧ 0 < r ∨ way = 2 ∧ (d < 2 * r ∨ 2 * r = d ∧ 0 < n) ∨ way = 3 ∧ (d < 2 * r ∨ 2 * r = d ∧ f % 2 = 1))) := by
  subst e1; subst e2
  unfold rnd
  rcases way4 w0 w3 with rfl | rfl | rfl | rfl
  · rw [upB_0]; left; exact ⟨rfl, .inl rfl⟩
  · rw [upB_1]
    by_cases u : 0 < n % d
    · rw [if_pos (by simpa using u)]; right; exact ⟨rfl, .inl ⟨rfl, u⟩⟩
    · rw [if_neg (by simpa using u)]; left; exact ⟨rfl, .inr (.inl ⟨rfl, u⟩)⟩
  · rw [upB_2]
    by_cases u : d < 2 * (n % d) ∨ 2 * (n % d) = d ∧ 0 < n
    · rw [if_pos (by simpa using u)]; right; exact ⟨rfl, .inr (.inl ⟨rfl, u⟩)⟩
    · rw [if_neg (by simpa using u)]; left; exact ⟨rfl, .inr (.inr (.inl ⟨rfl, u⟩))⟩
  · rw [upB_3]
    by_cases u : d < 2 * (n % d) ∨ 2 * (n % d) = d ∧ (n / d) % 2 = 1
    · rw [if_pos (by simpa using u)]; right; exact ⟨rfl, .inr (.inr ⟨rfl, u⟩)⟩
    · rw [if_neg (by simpa using u)]; left; exact ⟨rfl, .inr (.inr (.inr ⟨rfl, u⟩))⟩
/-- All that matters to a mode is the sign, whether the whole number is even, and the quarters of the rest. -/
theorem quot_eq (n d way : Int) (hd : 1 ≤ d) (w0 : 0 ≤ way) (w3 : way ≤ 3) :
    n.tdiv d - (n.tdiv d).tmod 2 + rnd (4 * (n.tdiv d).tmod 2 + qrt (n.tmod d) d) 4 way = rnd n d way := by
  obtain ⟨e, r0, r1⟩ := div_spec n d hd
  have nz : n % d ≠ 0 → n ≠ 0 := fun h z => h (by rw [z]; simp)
  have sg : (0 ≤ n → 0 ≤ n / d) ∧ (n < 0 → n / d < 0) :=
    ⟨fun h => Int.ediv_nonneg h (by omega), fun h => Int.ediv_neg_of_neg_of_pos h (by omega)⟩
  have R := rnd_case n d way (n / d) (n % d) rfl rfl w0 w3
  generalize hX : 4 * (n.tdiv d).tmod 2 + qrt (n.tmod d) d = X
  have S := rnd_case X 4 way (X / 4) (X % 4) rfl rfl w0 w3
  have t2 := tmod2 (n.tdiv d)
  have c1 := cmM_cases (2 * n.tmod d) d
  have c2 := cmM_cases (2 * (-n.tmod d)) d
  unfold qrt at hX
  generalize rnd n d way = A at *
  generalize rnd X 4 way = B at *
  generalize cmM (2 * n.tmod d) d = c at *
  generalize cmM (2 * (-n.tmod d)) d = c' at *
  by_cases hr : n.tmod d < 0
  · obtain ⟨a, b⟩ := tdiv_neg n d hd hr
    have ng : n < 0 := by
      by_cases z : n < 0
      · exact z
      · have := Int.tmod_nonneg d (show 0 ≤ n by omega); omega
    have s2 := sg.2 ng
    have tb : -d < n.tmod d := by have := Int.lt_tmod_of_pos n (show 0 < d by omega); omega
    rw [if_neg (by omega), if_pos hr] at hX
    generalize n.tdiv d = W at *
    generalize n.tmod d = T at *
    generalize n / d = f at *
    generalize n % d = r at *
    generalize W.tmod 2 = o at *
    clear e
    obtain rfl : f = W - 1 := by omega
    obtain rfl : T = r - d := by omega
    have to2 : o = -((-W) % 2) := by omega
    have oo : (o = 0 ∧ W % 2 = 0) ∨ (o = -1 ∧ W % 2 = 1) := by omega
    have xx : X / 4 = o - 1 ∧ X % 4 = 2 - c' := by omega
    have c3 : (d < 2 * r ∧ c' = -1) ∨ (2 * r = d ∧ c' = 0) ∨ (2 * r < d ∧ c' = 1) := by omega
    have xn : ¬ 0 < X := by omega
    have nn : ¬ 0 < n := by omega
    have rp : 0 < r := by omega
    rw [xx.1, xx.2] at S
    clear t2 c1 sg nz c2 hX to2 xx ng b s2
    rcases oo with ⟨rfl, o2⟩ | ⟨rfl, o2⟩ <;> rcases c3 with ⟨c3, rfl⟩ | ⟨c3, rfl⟩ | ⟨c3, rfl⟩ <;> omega
  · obtain ⟨a, b⟩ := tdiv_pos n d hd (by omega)
    have np : 0 < n.tmod d → 0 ≤ n / d ∧ 0 < n := by
      intro h
      by_cases z : 0 ≤ n
      · exact ⟨sg.1 z, by by_cases y : n = 0
                          · rw [y] at h; simp at h
                          · omega⟩
      · have := Int.tmod_nonneg d (show 0 ≤ -n by omega)
        rw [Int.neg_tmod] at this; omega
    generalize n.tdiv d = W at *
    generalize n.tmod d = T at *
    generalize n / d = f at *
    generalize n % d = r at *
    generalize W.tmod 2 = o at *
    clear e
    subst a b
    by_cases tz : 0 < T
    · rw [if_pos tz] at hX
      have np := np tz
      have oo : o = W % 2 := by omega
      have xx : X / 4 = o ∧ X % 4 = 2 + c := by omega
      have xp : 0 < X := by omega
      rw [xx.1, xx.2] at S
      clear c2 t2 hX sg nz xx
      rcases c1 with ⟨c3, rfl⟩ | ⟨c3, rfl⟩ | ⟨c3, rfl⟩ <;> omega
    · rw [if_neg tz, if_neg hr] at hX
      obtain rfl : T = 0 := by omega
      clear c1 c2
      omega

theorem rnd_whole (k d way : Int) (hd : 1 ≤ d) (w0 : 0 ≤ way) (w3 : way ≤ 3) : rnd (k * d) d way = k := by
  have e1 : k * d / d = k := Int.mul_ediv_cancel _ (by omega)
  have e2 : k * d % d = 0 := Int.mul_emod_left _ _
  rcases rnd_case (k * d) d way k 0 e1 e2 w0 w3 with ⟨h, _⟩ | ⟨_, h⟩
  · exact h
  · omega
/-- Less than one away. -/
theorem rnd_off (n d way : Int) (hd : 1 ≤ d) (w0 : 0 ≤ way) (w3 : way ≤ 3) : rnd n d way * d - n < d ∧ n - rnd n d way * d < d := by
  obtain ⟨e, r0, r1⟩ := div_spec n d hd
  have m : n / d * d = d * (n / d) := Int.mul_comm _ _
  rcases rnd_case n d way _ _ rfl rfl w0 w3 with ⟨h, _⟩ | ⟨h, c⟩
  · rw [h]; omega
  · rw [h, Int.add_mul]; omega
/-- A whole number and less than a half. -/
theorem rnd_half (k e d way : Int) (hd : 1 ≤ d) (hw : way = 2 ∨ way = 3) (h1 : -d < 2 * e) (h2 : 2 * e < d) : rnd (k * d + e) d way = k := by
  obtain ⟨a, b, _⟩ := rnd_far (k * d + e) d hd way hw
  generalize rnd (k * d + e) d way = x at *
  have m : x * d - (k * d + e) = (x - k) * d - e := by rw [Int.sub_mul]; omega
  rw [m] at a b
  by_cases c : x = k
  · exact c
  · exfalso
    rcases (show 1 ≤ x - k ∨ x - k ≤ -1 by omega) with z | z
    · have : 1 * d ≤ (x - k) * d := Int.mul_le_mul_of_nonneg_right z (by omega)
      omega
    · have : (x - k) * d ≤ -1 * d := Int.mul_le_mul_of_nonneg_right z (by omega)
      omega
/-- What a tax is added to comes back. -/
theorem tax_back (net rate way : Int) (r0 : 0 ≤ rate) (hw : way = 2 ∨ way = 3) :
    rnd ((net + rnd (net * rate) 1000000 way) * 1000000) (1000000 + rate) way = net := by
  obtain ⟨a, b, _⟩ := rnd_far (net * rate) 1000000 (by omega) way hw
  have z : rate = 0 → rnd (net * rate) 1000000 way = 0 := by
    intro z; subst z
    have := rnd_whole 0 1000000 way (by omega) (by omega) (by omega)
    simpa using this
  generalize rnd (net * rate) 1000000 way = t at *
  have e : (net + t) * 1000000 = net * (1000000 + rate) + (t * 1000000 - net * rate) := by
    rw [Int.add_mul, Int.mul_add]; omega
  rw [e]
  by_cases c : rate = 0
  · have := z c
    subst c this
    refine rnd_half net _ _ way (by omega) hw (by simp) (by simp)
  · exact rnd_half net _ _ way (by omega) hw (by omega) (by omega)
theorem rnd_nonneg (n d way : Int) (hd : 1 ≤ d) (n0 : 0 ≤ n) (w0 : 0 ≤ way) (w3 : way ≤ 3) : 0 ≤ rnd n d way := by
  have := rnd_mono 0 1 n d way (by omega) hd (by omega) w0 w3
  have e := rnd_whole 0 1 way (by omega) w0 w3
  simp only [Int.zero_mul] at e
  omega
theorem rnd_le (n d way k : Int) (hd : 1 ≤ d) (h : n ≤ k * d) (w0 : 0 ≤ way) (w3 : way ≤ 3) : rnd n d way ≤ k := by
  have := rnd_mono n d (k * d) d way hd hd (Int.mul_le_mul_of_nonneg_right h (by omega)) w0 w3
  rw [rnd_whole k d way hd w0 w3] at this
  exact this
theorem rnd_ge (n d way k : Int) (hd : 1 ≤ d) (h : k * d ≤ n) (w0 : 0 ≤ way) (w3 : way ≤ 3) : k ≤ rnd n d way := by
  have := rnd_mono (k * d) d n d way hd hd (Int.mul_le_mul_of_nonneg_right h (by omega)) w0 w3
  rw [rnd_whole k d way hd w0 w3] at this
  exact this
/-- Shares of parts. -/
theorem parts_off (p : Nat → Int) (rate way : Int) (n : Nat) (w0 : 0 ≤ way) (w3 : way ≤ 3) :
    sumTo (fun i => rnd (p i * rate) 1000000 way) n * 1000000 - sumTo p n * rate ≤ 999999 * n ∧ sumTo p n * rate - sumTo (fun i => rnd (p i * rate) 1000000 way) n * 1000000 ≤ 999999 * n := by
  induction n with
  | zero => simp [sumTo]
  | succ n ih =>
    have o := rnd_off (p n * rate) 1000000 way (by omega) w0 w3
    rw [sumTo, sumTo, Int.add_mul, Int.add_mul]
    generalize rnd (p n * rate) 1000000 way = x at *
    omega
theorem parts_near (p : Nat → Int) (rate way amount : Int) (n : Nat) (hs : sumTo p n = amount) (w0 : 0 ≤ way) (w3 : way ≤ 3) :
    sumTo (fun i => rnd (p i * rate) 1000000 way) n - rnd (amount * rate) 1000000 way ≤ n ∧ rnd (amount * rate) 1000000 way - sumTo (fun i => rnd (p i * rate) 1000000 way) n ≤ n := by
  have a := parts_off p rate way n w0 w3
  have o := rnd_off (amount * rate) 1000000 way (by omega) w0 w3
  rw [hs] at a
  omega

end Go.Proofs.Ytklbikifcebckaa

/-
  What package money and what it calls of package frac return: Check, floor, Round, quarters, quotient, Share, With, Within. No condition but those that each theorem names.
-/
namespace Go.Proofs.Ytklbikifcebckaa
open Go.RowKit

theorem cmM_lt {x y : Int} (h : x < y) : cmM x y = -1 := by unfold cmM; rw [if_pos h]
theorem cmM_gt {x y : Int} (h : y < x) : cmM x y = 1 := by unfold cmM; rw [if_neg (by omega), if_pos h]
theorem cmM_eq (x : Int) : cmM x x = 0 := by unfold cmM; rw [if_neg (by omega), if_neg (by omega)]
theorem cmM_bd (x y : Int) : -1 ≤ cmM x y ∧ cmM x y ≤ 1 := by unfold cmM; split <;> (try split) <;> omega

/-- A fraction as the program holds it. -/
abbrev fr2 (n d : Int) : Value := .agg #[.int .i64 n, .int .i64 d]
/-- Two numbers lie at a place, and may be written there. -/
structure Box2 (w : World) (p : Nat) (n d : Int) : Prop where
  lt : p < w.heap.size
  c0 : w.cell? ⟨p, 0, none⟩ = some (.int .i64 n)
  c1 : w.cell? ⟨p, 1, none⟩ = some (.int .i64 d)
  f0 : w.frozen? ⟨p, 0, none⟩ = false
  f1 : w.frozen? ⟨p, 1, none⟩ = false
theorem Box2.later {w w' : World} {p : Nat} {n d : Int} (h : Box2 w p n d) (k : Kept w w') : Box2 w' p n d :=
  ⟨Nat.lt_of_lt_of_le h.lt k.le, (k.rd.1 _ _ h.lt).trans h.c0, (k.rd.1 _ _ h.lt).trans h.c1, (k.rd.2 _ _ h.lt).trans h.f0, (k.rd.2 _ _ h.lt).trans h.f1⟩
theorem Box2.new {w : World} {p : Nat} {n d : Int} {t : TypeId} (hp : w.heap.size = p) : Box2 (w.alloc (.cells #[.int .i64 n, .int .i64 d] t)) p n d := by
  subst hp; constructor <;> simp
theorem Box2.alloc {w : World} {p : Nat} {n d : Int} (h : Box2 w p n d) (o : Obj) : Box2 (w.alloc o) p n d := h.later ((Kept.refl w).alloc o)
theorem Box2.drewN {w : World} {p : Nat} {n d : Int} (h : Box2 w p n d) (m : Nat) : Box2 (w.drewN m) p n d := ⟨h.lt, h.c0, h.c1, h.f0, h.f1⟩
theorem Box2.drew {w : World} {p : Nat} {n d : Int} (h : Box2 w p n d) : Box2 w.drew p n d := ⟨h.lt, h.c0, h.c1, h.f0, h.f1⟩
set_option maxHeartbeats 400000 in
theorem check_anyM (n d : Int) (w : World) :
    Calls Try.prog 127 #[fr2 n d] w fun e w' => e = .returned (.int .i64 (chk n d)) ∧ Kept w w' := by
  by_cases hd : d = 0
  · subst hd
    go_enter Try.func127, Try.ntmps127
    go_wp2
    go_ret
    exact ⟨ret_int (by simp [chk]), (Kept.refl w).alloc _⟩
  · have hb : (d == 0) = false := by simp [hd]
    cases ho : okB n d
    · have e : chk n d = 1 := by unfold chk; rw [if_neg hd, ho]; simp
      have ho' : ¬ (-1000000000000 ≤ n ∧ n ≤ 1000000000000 ∧ 1 ≤ d ∧ d ≤ 1000000) := by rw [← ok_iff, ho]; simp
      rw [e]
      clear e ho
      rcases (show n < -1000000000000 ∨ (-1000000000000 ≤ n ∧ 1000000000000 < n) ∨ (-1000000000000 ≤ n ∧ n ≤ 1000000000000 ∧ d < 1) ∨ (-1000000000000 ≤ n ∧ n ≤ 1000000000000 ∧ 1 ≤ d ∧ 1000000 < d) by omega) with h | ⟨h1, h2⟩ | ⟨h1, h2, h3⟩ | ⟨h1, h2, h3, h4⟩
      all_goals
        clear ho' hd
        go_enter Try.func127, Try.ntmps127
        go_wp2
        go_ret
        exact ⟨rfl, (Kept.refl w).alloc _⟩
    · rw [chk_ok ho]
      obtain ⟨h1, h2, h3, h4⟩ := (ok_iff n d).1 ho
      clear ho hd
      go_enter Try.func127, Try.ntmps127
      go_wp2
      go_ret
      exact ⟨rfl, (Kept.refl w).alloc _⟩

set_option maxHeartbeats 400000 in
theorem compareM (x y : Int) (w : World) :
    Calls Try.prog 126 #[.int .i64 x, .int .i64 y] w fun e w' => e = .returned (.int .i64 (cmM x y)) ∧ w = w' := by
  rcases (show x < y ∨ x = y ∨ y < x by omega) with h | h | h
  · rw [cmM_lt h]
    go_enter Try.func126, Try.ntmps126
    go_wp2
    go_ret
    exact ⟨rfl, rfl⟩
  · subst h
    rw [cmM_eq]
    go_enter Try.func126, Try.ntmps126
    go_wp2
    go_ret
    exact ⟨rfl, rfl⟩
  · rw [cmM_gt h]
    go_enter Try.func126, Try.ntmps126
    go_wp2
    go_ret
    exact ⟨rfl, rfl⟩

theorem ret22 {a b c d : Int} (h : a = b) (k : c = d) : Ending.returned (.tuple #[.int .i64 a, .int .i64 c]) = .returned (.tuple #[.int .i64 b, .int .i64 d]) := by rw [h, k]

set_option maxHeartbeats 1000000 in
theorem floor_any (n d : Int) (w : World) (h1 : -1000000000000 ≤ n) (h2 : n ≤ 1000000000000) (h3 : 1 ≤ d) (h4 : d ≤ 1000000) :
    Calls Try.prog 128 #[fr2 n d] w fun e w' => e = .returned (.tuple #[.int .i64 (n / d), .int .i64 (n % d)]) ∧ Kept w w' := by
  have dz : (d == 0) = false := by rw [beq_eq_false_iff_ne]; omega
  have tb := tdiv_bd n d _ h3 h1 h2
  by_cases hr : n.tmod d < 0
  · have T := Lib.hid (tdiv_neg n d h3 hr)
    go_enter Try.func128, Try.ntmps128
    go_wp2
    go_quiet (fail)
    go_wp2
    go_quiet (fail)
    go_wp2
    go_ret2
    exact ⟨ret22 T.out.1 T.out.2, (((Kept.refl w).alloc _).drewN _).drewN _⟩
  · have hr' : 0 ≤ n.tmod d := by omega
    have T := Lib.hid (tdiv_pos n d h3 hr')
    clear hr
    go_enter Try.func128, Try.ntmps128
    go_wp2
    go_quiet (fail)
    go_wp2
    go_ret2
    exact ⟨ret22 T.out.1 T.out.2, ((Kept.refl w).alloc _).drewN _⟩

theorem odd_tmod (k : Int) : ((k.tmod 2 != 0) = true ↔ k % 2 = 1) := by
  rw [bne_iff_ne]
  by_cases c : 0 ≤ k
  · rw [Int.tmod_eq_emod_of_nonneg c]; omega
  · have e : k.tmod 2 = -((-k) % 2) := by
      rw [← Int.tmod_eq_emod_of_nonneg (show 0 ≤ -k by omega), Int.neg_tmod, Int.neg_neg]
    rw [e]; omega
theorem even_tmod (k : Int) : ((k.tmod 2 != 0) = false ↔ ¬ k % 2 = 1) := by
  rw [← odd_tmod]; simp

set_option maxHeartbeats 1000000 in
theorem round_bad (n d way : Int) (w : World) (h : okB n d = true) (hw : way < 0 ∨ 3 < way) :
    Calls Try.prog 89 #[fr2 n d, .int .i64 way] w fun e w' => e = .returned (.tuple #[.int .i64 0, .int .i64 1]) ∧ Kept w w' := by
  have H := Lib.hid (chk_ok h)
  obtain ⟨h1, h2, h3, h4⟩ := (ok_iff n d).1 h
  have hb := emod_bd n d (by omega)
  have db := div_bd n d _ h3 h1 h2
  have w0 : (way == 0) = false := by rw [beq_eq_false_iff_ne]; omega
  have w1' : (way == 1) = false := by rw [beq_eq_false_iff_ne]; omega
  have w2' : (way == 2) = false := by rw [beq_eq_false_iff_ne]; omega
  have w3' : (way == 3) = false := by rw [beq_eq_false_iff_ne]; omega
  clear h hw
  go_enter Try.func89, Try.ntmps89
  go_wp2_with fail
  refine (check_anyM _ _ _).mono ?_
  rintro e w1 ⟨rfl, hk1⟩
  rw [H.out]
  have hA := (Box2.new (w := w) (n := n) (d := d) (t := 114) rfl).later hk1
  have hk := ((Kept.refl w).alloc _).trans hk1
  clear hk1
  obtain ⟨lt, c0, c1, f0, f1⟩ := id hA
  go_wp2_with fail
  refine (floor_any _ _ _ h1 h2 h3 h4).mono ?_
  rintro e w2 ⟨rfl, hk2⟩
  clear lt c0 c1 f0 f1
  obtain ⟨lt, c0, c1, f0, f1⟩ := hA.later hk2
  have hk3 := hk.trans hk2
  clear hA hk hk2
  go_wp2_with fail
  refine (compareM _ _ _).mono ?_
  rintro e w3 ⟨rfl, rfl⟩
  go_wp2
  go_ret2
  exact ⟨rfl, hk3⟩

set_option maxHeartbeats 4000000 in
theorem round_yes (n d way : Int) (w : World) (h : okB n d = true) (hw0 : 0 ≤ way) (hw3 : way ≤ 3) :
    Calls Try.prog 89 #[fr2 n d, .int .i64 way] w fun e w' => e = .returned (.tuple #[.int .i64 (rnd n d way), .int .i64 0]) ∧ Kept w w' := by
  have H := Lib.hid (chk_ok h)
  obtain ⟨h1, h2, h3, h4⟩ := (ok_iff n d).1 h
  have hb := emod_bd n d (by omega)
  have db := div_bd n d _ h3 h1 h2
  clear h
  go_enter Try.func89, Try.ntmps89
  go_wp2_with fail
  refine (check_anyM _ _ _).mono ?_
  rintro e w1 ⟨rfl, hk1⟩
  rw [H.out]
  have hA := (Box2.new (w := w) (n := n) (d := d) (t := 114) rfl).later hk1
  have hk := ((Kept.refl w).alloc _).trans hk1
  clear hk1
  obtain ⟨lt, c0, c1, f0, f1⟩ := id hA
  go_wp2_with fail
  refine (floor_any _ _ _ h1 h2 h3 h4).mono ?_
  rintro e w2 ⟨rfl, hk2⟩
  clear lt c0 c1 f0 f1
  obtain ⟨lt, c0, c1, f0, f1⟩ := hA.later hk2
  have hk3 := hk.trans hk2
  clear hA hk hk2
  go_wp2_with fail
  refine (compareM _ _ _).mono ?_
  rintro e w3 ⟨rfl, rfl⟩
  rcases (show way = 0 ∨ way = 1 ∨ way = 2 ∨ way = 3 by omega) with rfl | rfl | rfl | rfl
  · go_wp2
    go_ret2
    exact ⟨ret22 (by simp [rnd, upB_0]) rfl, hk3⟩
  · by_cases hr : 0 < n % d
    · go_wp2
      go_ret2
      exact ⟨ret22 (by simp [rnd, upB_1, hr]) rfl, hk3⟩
    · have hr' : decide (0 < n % d) = false := by simpa using hr
      have HR := Lib.hid hr
      clear hr
      go_wp2
      go_ret2
      exact ⟨ret22 (by unfold rnd; rw [upB_1, decide_eq_false (Int.not_lt.2 HR.out)]; simp) rfl, hk3⟩
  · rcases (show d < 2 * (n % d) ∨ 2 * (n % d) < d ∨ 2 * (n % d) = d by omega) with hc | hc | hc
    · have E : rnd n d 2 = n / d + 1 := by unfold rnd; rw [upB_2, if_pos (by simp [hc])]
      rw [cmM_gt hc]
      have HE := Lib.hid E
      clear E hc
      go_wp2
      go_ret2
      exact ⟨ret22 HE.out.symm rfl, hk3⟩
    · have E : rnd n d 2 = n / d := by unfold rnd; rw [upB_2, if_neg (by simp; omega)]
      rw [cmM_lt hc]
      have HE := Lib.hid E
      clear E hc
      go_wp2
      go_ret2
      exact ⟨ret22 HE.out.symm rfl, hk3⟩
    · by_cases hn : 0 < n
      · have E : rnd n d 2 = n / d + 1 := by unfold rnd; rw [upB_2, if_pos (by simp [hc, hn])]
        rw [show cmM (2 * (n % d)) d = 0 by rw [hc, cmM_eq]]
        have HE := Lib.hid E
        clear E hc
        go_wp2
        go_ret2
        exact ⟨ret22 HE.out.symm rfl, hk3⟩
      · have E : rnd n d 2 = n / d := by unfold rnd; rw [upB_2, if_neg (by simp; omega)]
        rw [show cmM (2 * (n % d)) d = 0 by rw [hc, cmM_eq]]
        have hn' : decide (0 < n) = false := by simpa using hn
        have HE := Lib.hid E
        clear E hc hn
        go_wp2
        go_ret2
        exact ⟨ret22 HE.out.symm rfl, hk3⟩
  · rcases (show d < 2 * (n % d) ∨ 2 * (n % d) < d ∨ 2 * (n % d) = d by omega) with hc | hc | hc
    · have E : rnd n d 3 = n / d + 1 := by unfold rnd; rw [upB_3, if_pos (by simp [hc])]
      rw [cmM_gt hc]
      have HE := Lib.hid E
      clear E hc
      go_wp2
      go_ret2
      exact ⟨ret22 HE.out.symm rfl, hk3⟩
    · have E : rnd n d 3 = n / d := by unfold rnd; rw [upB_3, if_neg (by simp; omega)]
      rw [cmM_lt hc]
      have HE := Lib.hid E
      clear E hc
      go_wp2
      go_ret2
      exact ⟨ret22 HE.out.symm rfl, hk3⟩
    · by_cases hn : (n / d) % 2 = 1
      · have E : rnd n d 3 = n / d + 1 := by unfold rnd; rw [upB_3, if_pos (by simp [hc, hn])]
        rw [show cmM (2 * (n % d)) d = 0 by rw [hc, cmM_eq]]
        have hn' := (odd_tmod (n / d)).2 hn
        have HE := Lib.hid E
        clear E hc hn
        go_wp2
        go_ret2
        exact ⟨ret22 HE.out.symm rfl, hk3⟩
      · have E : rnd n d 3 = n / d := by unfold rnd; rw [upB_3, if_neg (by simp; omega)]
        rw [show cmM (2 * (n % d)) d = 0 by rw [hc, cmM_eq]]
        have hn' := (even_tmod (n / d)).2 hn
        have HE := Lib.hid E
        clear E hc hn
        go_wp2
        go_ret2
        exact ⟨ret22 HE.out.symm rfl, hk3⟩

def inB (x a b : Int) : Bool := decide (a ≤ x ∧ x ≤ b)
/-! Package money. -/
set_option maxHeartbeats 400000 in
theorem quarters_pos (r d : Int) (w : World) (r0 : 0 < r) (r1 : r ≤ 2000000) :
    Calls Try.prog 131 #[.int .i64 r, .int .i64 d] w fun e w' => e = .returned (.int .i64 (2 + cmM (2 * r) d)) ∧ w = w' := by
  have b := cmM_bd (2 * r) d
  have C := Lib.hid (fun w => compareM (2 * r) d w)
  generalize cmM (2 * r) d = c at *
  go_enter Try.func131, Try.ntmps131
  go_wp2_with fail
  refine (C.out _).mono ?_
  rintro e w1 ⟨rfl, rfl⟩
  go_wp2
  go_ret
  exact ⟨rfl, rfl⟩
set_option maxHeartbeats 400000 in
theorem quarters_any (r d : Int) (w : World) (r0 : -2000000 ≤ r) (r1 : r ≤ 2000000) :
    Calls Try.prog 131 #[.int .i64 r, .int .i64 d] w fun e w' => e = .returned (.int .i64 (qrt r d)) ∧ w = w' := by
  rcases (show 0 < r ∨ r = 0 ∨ r < 0 by omega) with h | h | h
  · rw [show qrt r d = 2 + cmM (2 * r) d by unfold qrt; rw [if_pos h]]
    exact quarters_pos r d w h r1
  · subst h
    rw [show qrt 0 d = 0 by simp [qrt]]
    go_enter Try.func131, Try.ntmps131
    go_wp2
    go_ret
    exact ⟨rfl, rfl⟩
  · have Q := Lib.hid (show qrt r d = -(2 + cmM (2 * (-r)) d) by unfold qrt; rw [if_neg (by omega), if_pos h])
    generalize qrt r d = V at *
    have b := cmM_bd (2 * (-r)) d
    have P := Lib.hid (fun w => quarters_pos (-r) d w (by omega) (by omega))
    generalize cmM (2 * (-r)) d = c at *
    go_enter Try.func131, Try.ntmps131
    go_wp2_with fail
    refine (P.out _).mono ?_
    rintro e w1 ⟨rfl, rfl⟩
    go_wp2
    go_ret
    exact ⟨ret_int (by rw [Q.out]), rfl⟩
theorem tmod2_bd (k : Int) : -1 ≤ k.tmod 2 ∧ k.tmod 2 ≤ 1 := by have := tmod2 k; omega
def wayB (way : Int) : Bool := decide (0 ≤ way ∧ way ≤ 3)
theorem wayB_iff (way : Int) : wayB way = true ↔ 0 ≤ way ∧ way ≤ 3 := by unfold wayB; exact decide_eq_true_iff
set_option maxHeartbeats 1000000 in
theorem quotient_yes (n d way : Int) (w : World) (h0 : -1000000000000000000 ≤ n) (h1 : n ≤ 1000000000000000000) (d0 : 1 ≤ d) (d1 : d ≤ 2000000) (hw : wayB way = true) :
    Calls Try.prog 95 #[.int .i64 n, .int .i64 d, .int .i64 way] w fun e w' => e = .returned (.tuple #[.int .i64 (rnd n d way), .int .i64 0]) ∧ Kept w w' := by
  obtain ⟨w0, w3⟩ := (wayB_iff way).1 hw
  have Q := Lib.hid (quot_eq n d way d0 w0 w3)
  have dz : (d == 0) = false := by rw [beq_eq_false_iff_ne]; omega
  have tb := tdiv_bd n d _ d0 h0 h1
  have ob := tmod2_bd (n.tdiv d)
  have qb := qrt_bd (n.tmod d) d
  have xb := rnd_bd (4 * (n.tdiv d).tmod 2 + qrt (n.tmod d) d) 4 way
  have QC := Lib.hid (fun w => quarters_any (n.tmod d) d w (by omega) (by omega))
  have RC := Lib.hid (fun w => round_yes (4 * (n.tdiv d).tmod 2 + qrt (n.tmod d) d) 4 way w ((ok_iff _ _).2 (by omega)) w0 w3)
  generalize rnd n d way = R at *
  clear hw
  go_enter Try.func95, Try.ntmps95
  go_wp2_with fail
  refine (QC.out _).mono ?_
  rintro e w1 ⟨rfl, rfl⟩
  go_wp2_with fail
  refine (RC.out _).mono ?_
  rintro e w1 ⟨rfl, hK⟩
  generalize rnd (4 * (n.tdiv d).tmod 2 + qrt (n.tmod d) d) 4 way = X at *
  generalize qrt (n.tmod d) d = q at *
  generalize (n.tdiv d).tmod 2 = o at *
  generalize n.tdiv d = W at *
  go_wp2
  go_ret2
  exact ⟨ret22 Q.out rfl, hK⟩
set_option maxHeartbeats 1000000 in
theorem quotient_no (n d way : Int) (w : World) (h0 : -1000000000000000000 ≤ n) (h1 : n ≤ 1000000000000000000) (d0 : 1 ≤ d) (d1 : d ≤ 2000000) (hw : wayB way = false) :
    Calls Try.prog 95 #[.int .i64 n, .int .i64 d, .int .i64 way] w fun e w' => e = .returned (.tuple #[.int .i64 0, .int .i64 1]) ∧ Kept w w' := by
  have w0 : way < 0 ∨ 3 < way := by unfold wayB at hw; simp at hw; omega
  have dz : (d == 0) = false := by rw [beq_eq_false_iff_ne]; omega
  have tb := tdiv_bd n d _ d0 h0 h1
  have ob := tmod2_bd (n.tdiv d)
  have qb := qrt_bd (n.tmod d) d
  have QC := Lib.hid (fun w => quarters_any (n.tmod d) d w (by omega) (by omega))
  have RC := Lib.hid (fun w => round_bad (4 * (n.tdiv d).tmod 2 + qrt (n.tmod d) d) 4 way w ((ok_iff _ _).2 (by omega)) w0)
  clear hw w0
  go_enter Try.func95, Try.ntmps95
  go_wp2_with fail
  refine (QC.out _).mono ?_
  rintro e w1 ⟨rfl, rfl⟩
  go_wp2_with fail
  refine (RC.out _).mono ?_
  rintro e w1 ⟨rfl, hK⟩
  go_wp2
  go_ret2
  exact ⟨rfl, hK⟩
set_option maxHeartbeats 400000 in
theorem mvalid_any (a : Int) (w : World) :
    Calls Try.prog 93 #[.int .i64 a] w fun e w' => e = .returned (.bool (amB a)) ∧ w = w' := by
  have E := Lib.hid (show amB a = decide (-1000000000000 ≤ a ∧ a ≤ 1000000000000) from rfl)
  generalize amB a = B at *
  by_cases h : -1000000000000 ≤ a
  · by_cases h2 : a ≤ 1000000000000
    · go_enter Try.func93, Try.ntmps93
      go_wp2
      go_ret
      exact ⟨ret_bool (by rw [E.out]; simp [h, h2]), rfl⟩
    · have hb : decide (a ≤ 1000000000000) = false := by simpa using h2
      have H := Lib.hid h2
      clear h2
      go_enter Try.func93, Try.ntmps93
      go_wp2
      go_ret
      exact ⟨ret_bool (by rw [E.out]; have := H.out; simp; omega), rfl⟩
  · have hb : decide (-1000000000000 ≤ a) = false := by simpa using h
    have H := Lib.hid h
    clear h
    go_enter Try.func93, Try.ntmps93
    go_wp2
    go_ret
    exact ⟨ret_bool (by rw [E.out]; have := H.out; simp; omega), rfl⟩
def rtB (r : Int) : Bool := decide (0 ≤ r ∧ r ≤ 1000000)
theorem rtB_iff (r : Int) : rtB r = true ↔ 0 ≤ r ∧ r ≤ 1000000 := by unfold rtB; exact decide_eq_true_iff
set_option maxHeartbeats 400000 in
theorem vrate_any (a : Int) (w : World) :
    Calls Try.prog 94 #[.int .i64 a] w fun e w' => e = .returned (.bool (rtB a)) ∧ w = w' := by
  have E := Lib.hid (show rtB a = decide (0 ≤ a ∧ a ≤ 1000000) from rfl)
  generalize rtB a = B at *
  by_cases h : 0 ≤ a
  · by_cases h2 : a ≤ 1000000
    · go_enter Try.func94, Try.ntmps94
      go_wp2
      go_ret
      exact ⟨ret_bool (by rw [E.out]; simp [h, h2]), rfl⟩
    · have hb : decide (a ≤ 1000000) = false := by simpa using h2
      have H := Lib.hid h2
      clear h2
      go_enter Try.func94, Try.ntmps94
      go_wp2
      go_ret
      exact ⟨ret_bool (by rw [E.out]; have := H.out; simp; omega), rfl⟩
  · have hb : decide (0 ≤ a) = false := by simpa using h
    have H := Lib.hid h
    clear h
    go_enter Try.func94, Try.ntmps94
    go_wp2
    go_ret
    exact ⟨ret_bool (by rw [E.out]; have := H.out; simp; omega), rfl⟩
/-- What is asked of all three. -/
def okM (a r way : Int) : Bool := amB a && rtB r && wayB way
theorem okM_iff (a r way : Int) : okM a r way = true ↔ (-1000000000000 ≤ a ∧ a ≤ 1000000000000) ∧ (0 ≤ r ∧ r ≤ 1000000) ∧ (0 ≤ way ∧ way ≤ 3) := by
  unfold okM
  rw [Bool.and_eq_true, Bool.and_eq_true, am_iff, rtB_iff, wayB_iff, and_assoc]
theorem okM_no {a r way : Int} (h : okM a r way = false) : amB a = false ∨ (amB a = true ∧ rtB r = false) ∨ (amB a = true ∧ rtB r = true ∧ wayB way = false) := by
  unfold okM at h
  cases x : amB a <;> cases y : rtB r <;> cases z : wayB way <;> simp_all
theorem ar_bd {a r : Int} (a0 : -1000000000000 ≤ a) (a1 : a ≤ 1000000000000) (r0 : 0 ≤ r) (r1 : r ≤ 1000000) : -1000000000000000000 ≤ a * r ∧ a * r ≤ 1000000000000000000 := by
  have e : ((a * r).natAbs : Int) ≤ 1000000000000 * 1000000 := by
    rw [Int.natAbs_mul, Int.natCast_mul]
    exact Int.mul_le_mul (by omega) (by omega) (by omega) (by omega)
  omega
def shV (a r way : Int) : Int := rnd (a * r) 1000000 way
set_option maxHeartbeats 1000000 in
theorem share_yes (a r way : Int) (w : World) (h : okM a r way = true) :
    Calls Try.prog 88 #[.int .i64 a, .int .i64 r, .int .i64 way] w fun e w' => e = .returned (.tuple #[.int .i64 (shV a r way), .int .i64 0]) ∧ Kept w w' := by
  obtain ⟨⟨a0, a1⟩, ⟨r0, r1⟩, hw⟩ := (okM_iff a r way).1 h
  have A := Lib.hid ((am_iff a).2 ⟨a0, a1⟩)
  have R := Lib.hid ((rtB_iff r).2 ⟨r0, r1⟩)
  have W := Lib.hid ((wayB_iff way).2 hw)
  have mb := ar_bd a0 a1 r0 r1
  clear h hw
  go_enter Try.func88, Try.ntmps88
  go_wp2_with fail
  refine (mvalid_any _ _).mono ?_
  rintro e w1 ⟨rfl, rfl⟩
  rw [A.out]
  go_wp2_with fail
  refine (vrate_any _ _).mono ?_
  rintro e w1 ⟨rfl, rfl⟩
  rw [R.out]
  go_wp2_with fail
  refine (quotient_yes _ _ _ _ mb.1 mb.2 (by omega) (by omega) W.out).mono ?_
  rintro e w1 ⟨rfl, hK⟩
  go_wp2
  go_ret2
  exact ⟨rfl, hK⟩
set_option maxHeartbeats 1000000 in
theorem share_no (a r way : Int) (w : World) (h : okM a r way = false) :
    Calls Try.prog 88 #[.int .i64 a, .int .i64 r, .int .i64 way] w fun e w' => e = .returned (.tuple #[.int .i64 0, .int .i64 1]) ∧ Kept w w' := by
  rcases okM_no h with h1 | ⟨h1, h2⟩ | ⟨h1, h2, h3⟩
  · have A := Lib.hid h1
    clear h h1
    go_enter Try.func88, Try.ntmps88
    go_wp2_with fail
    refine (mvalid_any _ _).mono ?_
    rintro e w1 ⟨rfl, rfl⟩
    rw [A.out]
    go_wp2
    go_ret2
    exact ⟨rfl, Kept.refl w⟩
  · have A := Lib.hid h1
    have R := Lib.hid h2
    clear h h1 h2
    go_enter Try.func88, Try.ntmps88
    go_wp2_with fail
    refine (mvalid_any _ _).mono ?_
    rintro e w1 ⟨rfl, rfl⟩
    rw [A.out]
    go_wp2_with fail
    refine (vrate_any _ _).mono ?_
    rintro e w1 ⟨rfl, rfl⟩
    rw [R.out]
    go_wp2
    go_ret2
    exact ⟨rfl, Kept.refl w⟩
  · have A := Lib.hid h1
    have R := Lib.hid h2
    have W := Lib.hid h3
    obtain ⟨a0, a1⟩ := (am_iff a).1 h1
    obtain ⟨r0, r1⟩ := (rtB_iff r).1 h2
    have mb := ar_bd a0 a1 r0 r1
    clear h h1 h2 h3
    go_enter Try.func88, Try.ntmps88
    go_wp2_with fail
    refine (mvalid_any _ _).mono ?_
    rintro e w1 ⟨rfl, rfl⟩
    rw [A.out]
    go_wp2_with fail
    refine (vrate_any _ _).mono ?_
    rintro e w1 ⟨rfl, rfl⟩
    rw [R.out]
    go_wp2_with fail
    refine (quotient_no _ _ _ _ mb.1 mb.2 (by omega) (by omega) W.out).mono ?_
    rintro e w1 ⟨rfl, hK⟩
    go_wp2
    go_ret2
    exact ⟨rfl, hK⟩
theorem shV_bd {a r way : Int} (h : okM a r way = true) : -1000000000000 ≤ shV a r way ∧ shV a r way ≤ 1000000000000 := by
  obtain ⟨⟨a0, a1⟩, ⟨r0, r1⟩, w0, w3⟩ := (okM_iff a r way).1 h
  have mb := ar_bd a0 a1 r0 r1
  unfold shV
  exact ⟨rnd_ge _ _ _ _ (by omega) (by omega) w0 w3, rnd_le _ _ _ _ (by omega) (by omega) w0 w3⟩
/-- The error of With. -/
def wiE (a r way : Int) : Int := if okM a r way = true then (if amB (a + shV a r way) = true then 0 else 2) else 1
def wi0 (a r way : Int) : Int := if wiE a r way = 0 then a + shV a r way else 0
def wi1 (a r way : Int) : Int := if wiE a r way = 0 then shV a r way else 0
theorem ret333 {a b c d e f : Int} (h : a = b) (k : c = d) (l : e = f) : Ending.returned (.tuple #[.int .i64 a, .int .i64 c, .int .i64 e]) = .returned (.tuple #[.int .i64 b, .int .i64 d, .int .i64 f]) := by rw [h, k, l]
def inV (a r way : Int) : Int := rnd (a * 1000000) (1000000 + r) way
theorem inV_bd {a r way : Int} (h : okM a r way = true) : -1000000000000 ≤ inV a r way ∧ inV a r way ≤ 1000000000000 := by
  obtain ⟨⟨a0, a1⟩, ⟨r0, r1⟩, w0, w3⟩ := (okM_iff a r way).1 h
  unfold inV
  exact ⟨rnd_ge _ _ _ _ (by omega) (by omega) w0 w3, rnd_le _ _ _ _ (by omega) (by omega) w0 w3⟩
set_option maxHeartbeats 1000000 in
theorem within_yes (a r way : Int) (w : World) (h : okM a r way = true) :
    Calls Try.prog 44 #[.int .i64 a, .int .i64 r, .int .i64 way] w fun e w' => e = .returned (.tuple #[.int .i64 (inV a r way), .int .i64 (a - inV a r way), .int .i64 0]) ∧ Kept w w' := by
  obtain ⟨⟨a0, a1⟩, ⟨r0, r1⟩, hw⟩ := (okM_iff a r way).1 h
  have A := Lib.hid ((am_iff a).2 ⟨a0, a1⟩)
  have R := Lib.hid ((rtB_iff r).2 ⟨r0, r1⟩)
  have W := Lib.hid ((wayB_iff way).2 hw)
  have ib := inV_bd h
  have Q := Lib.hid (fun w => quotient_yes (a * 1000000) (1000000 + r) way w (by omega) (by omega) (by omega) (by omega) W.out)
  have V := Lib.hid (show inV a r way = rnd (a * 1000000) (1000000 + r) way from rfl)
  generalize inV a r way = x at *
  clear h hw
  go_enter Try.func44, Try.ntmps44
  go_wp2_with fail
  refine (mvalid_any _ _).mono ?_
  rintro e w1 ⟨rfl, rfl⟩
  rw [A.out]
  go_wp2_with fail
  refine (vrate_any _ _).mono ?_
  rintro e w1 ⟨rfl, rfl⟩
  rw [R.out]
  go_wp2_with fail
  refine (Q.out _).mono ?_
  rintro e w1 ⟨rfl, hK⟩
  rw [← V.out]
  go_wp2
  go_ret3
  exact ⟨rfl, hK⟩
set_option maxHeartbeats 1000000 in
theorem within_no (a r way : Int) (w : World) (h : okM a r way = false) :
    Calls Try.prog 44 #[.int .i64 a, .int .i64 r, .int .i64 way] w fun e w' => e = .returned (.tuple #[.int .i64 0, .int .i64 0, .int .i64 1]) ∧ Kept w w' := by
  rcases okM_no h with h1 | ⟨h1, h2⟩ | ⟨h1, h2, h3⟩
  · have A := Lib.hid h1
    clear h h1
    go_enter Try.func44, Try.ntmps44
    go_wp2_with fail
    refine (mvalid_any _ _).mono ?_
    rintro e w1 ⟨rfl, rfl⟩
    rw [A.out]
    go_wp2
    go_ret3
    exact ⟨rfl, Kept.refl w⟩
  · have A := Lib.hid h1
    have R := Lib.hid h2
    clear h h1 h2
    go_enter Try.func44, Try.ntmps44
    go_wp2_with fail
    refine (mvalid_any _ _).mono ?_
    rintro e w1 ⟨rfl, rfl⟩
    rw [A.out]
    go_wp2_with fail
    refine (vrate_any _ _).mono ?_
    rintro e w1 ⟨rfl, rfl⟩
    rw [R.out]
    go_wp2
    go_ret3
    exact ⟨rfl, Kept.refl w⟩
  · have A := Lib.hid h1
    have R := Lib.hid h2
    have W := Lib.hid h3
    obtain ⟨a0, a1⟩ := (am_iff a).1 h1
    obtain ⟨r0, r1⟩ := (rtB_iff r).1 h2
    have Q := Lib.hid (fun w => quotient_no (a * 1000000) (1000000 + r) way w (by omega) (by omega) (by omega) (by omega) W.out)
    clear h h1 h2 h3
    go_enter Try.func44, Try.ntmps44
    go_wp2_with fail
    refine (mvalid_any _ _).mono ?_
    rintro e w1 ⟨rfl, rfl⟩
    rw [A.out]
    go_wp2_with fail
    refine (vrate_any _ _).mono ?_
    rintro e w1 ⟨rfl, rfl⟩
    rw [R.out]
    go_wp2_with fail
    refine (Q.out _).mono ?_
    rintro e w1 ⟨rfl, hK⟩
    go_wp2
    go_ret3
    exact ⟨rfl, hK⟩

end Go.Proofs.Ytklbikifcebckaa
