/-
  What the laws of seats say, on numbers alone: more votes, one seat more, more votes for one, quotas, joined parties, two parties, scaled votes. No condition but those that each theorem names.
-/
import Derived.Test.YtpkdknddncnceaaDMath
namespace Go.Proofs.Ytpkdknddncnceaa

theorem wayc {way : Int} (h0 : 0 ≤ way) (h2 : way ≤ 2) (s : Int) : (way = 0 ∧ dv way s = s + 1) ∨ (way = 1 ∧ dv way s = 2 * s + 1) ∨ (way = 2 ∧ dv way s = s) := by
  rcases (show way = 0 ∨ way = 1 ∨ way = 2 by omega) with rfl | rfl | rfl <;> simp [dv]
section
variable {way : Int} {v : Nat → Int} {n : Nat} {x : Nat → Int}
/-- How many have votes. -/
def some1 (v : Nat → Int) : Nat → Int := fun i => if v i = 0 then 0 else 1
theorem Fr.more (hv : ∀ q, q < n → 0 ≤ v q) (h0 : 0 ≤ way) (h2 : way ≤ 2) (h : Fr way v n x) {s : Int} (hs : sumTo x n = s) (i k : Nat) (hi : i < n) (hk : k < n) (l : v k < v i) (m : x i < x k) :
    way = 2 ∧ s < sumTo (some1 v) n := by
  have x0 := h.nn i hi
  have pk := h.pos hv k hk (by omega)
  have f := h.num i k hi hk (by omega) (by omega)
  have m1 : v k * dv way (x i) ≤ v k * dv way (x k - 1) := Int.mul_le_mul_of_nonneg_left (dv_mono (by omega)) (by omega)
  have d0 : 0 ≤ dv way (x k - 1) := dv_nonneg (by omega)
  have z : dv way (x k - 1) = 0 := by
    by_cases z : dv way (x k - 1) = 0
    · exact z
    · have : v k * dv way (x k - 1) < v i * dv way (x k - 1) := Int.mul_lt_mul_of_pos_right l (by omega)
      omega
  have w2 : way = 2 ∧ x k = 1 := by
    rcases wayc h0 h2 (x k - 1) with ⟨e, d⟩ | ⟨e, d⟩ | ⟨e, d⟩
    · omega
    · omega
    · exact ⟨e, by omega⟩
  refine ⟨w2.1, ?_⟩
  rw [← hs]
  have xi : x i = 0 := by omega
  refine sum_lt (f := x) (g := some1 v) (fun q hq => ?_) i hi ?_
  · unfold some1
    by_cases vz : v q = 0
    · rw [if_pos vz, h.zero q hq vz]; omega
    · rw [if_neg vz]
      by_cases c : x q ≤ 1
      · exact c
      · exfalso
        have g := h.num i q hi hq (by omega) (by omega)
        rw [w2.1, xi] at g
        have e1 : dv 2 (x q - 1) = x q - 1 := by simp [dv]
        have e2 : dv 2 0 = 0 := by simp [dv]
        rw [e1, e2] at g
        have : 0 < v i * (x q - 1) := Int.mul_pos (by omega) (by omega)
        omega
  · unfold some1; rw [if_neg (by omega), xi]; omega
/-- One seat more: nobody has fewer, and together there is one more. -/
theorem dl_grows (way : Int) (v : Nat → Int) (n s i : Nat) : dl way v n s i ≤ dl way v n (s + 1) i := by
  rw [dl]; unfold up; split
  · next e => subst e; omega
  · omega
theorem sum_sub (f g : Nat → Int) (n : Nat) : sumTo (fun i => f i - g i) n = sumTo f n - sumTo g n := by
  induction n with
  | zero => simp [sumTo]
  | succ n ih => rw [sumTo, sumTo, sumTo, ih]; omega
theorem dl_one (hv : ∀ q, q < n → 0 ≤ v q) (T : 0 < sumTo v n) (s : Nat) : sumTo (fun i => dl way v n (s + 1) i - dl way v n s i) n = 1 := by
  rw [sum_sub, (dl_fr hv T (s + 1)).2, (dl_fr hv T s).2]; omega
/-- More votes for one alone. -/
theorem Fr.votes {v' y : Nat → Int} (hv : ∀ q, q < n → 0 ≤ v q) (hv' : ∀ q, q < n → 0 ≤ v' q) (hx : Fr way v n x) (hy : Fr way v' n y) (hs : sumTo x n = sumTo y n) (i : Nat) (hi : i < n)
    (vi : v i ≤ v' i) (vo : ∀ k, k < n → k ≠ i → v' k = v k) : x i ≤ y i ∧ ∀ k, k < n → k ≠ i → y k ≤ x k := by
  have a : x i ≤ y i := by
    by_cases c : x i ≤ y i
    · exact c
    · exfalso
      obtain ⟨b, hb, l⟩ := sum_other x y n (by omega) i hi (by omega)
      have bi : b ≠ i := fun e => by subst e; omega
      exact hx.swap hv hv' hy i b hi hb vi (by rw [vo b hb bi]; omega) (by omega) l
  refine ⟨a, fun k hk ki => ?_⟩
  by_cases c : y k ≤ x k
  · exact c
  · exfalso
    obtain ⟨b, hb, l⟩ := sum_other y x n (by omega) k hk (by omega)
    have bi : b ≠ i := fun e => by subst e; omega
    exact hx.swap hv hv' hy b k hb hk (by rw [vo b hb bi]; omega) (by rw [vo k hk ki]; omega) l (by omega)
/-- Jefferson: nobody has fewer than his quota rounded down. -/
theorem Fr.lower (hv : ∀ q, q < n → 0 ≤ v q) (h : Fr 0 v n x) {s T : Int} (hs : sumTo x n = s) (hT : sumTo v n = T) (T0 : 0 < T) (i : Nat) (hi : i < n) : s * v i / T ≤ x i := by
  by_cases c : s * v i / T ≤ x i
  · exact c
  · exfalso
    have x0 := h.nn i hi
    have vi := hv i hi
    have q : (x i + 1) * T ≤ s * v i := (Int.le_ediv_iff_mul_le T0).1 (by omega)
    have vp : 0 < v i := by
      by_cases z : v i = 0
      · rw [z] at q; have : 0 < (x i + 1) * T := Int.mul_pos (by omega) T0; omega
      · omega
    have key : sumTo (fun k => v i * x k) n < sumTo (fun k => v k * (x i + 1)) n := by
      refine sum_lt (fun k hk => ?_) i hi (Int.mul_lt_mul_of_pos_left (by omega) vp)
      by_cases xk : 0 < x k
      · have f := h.num i k hi hk vp xk
        simp only [dv, if_true] at f
        rw [show x k - 1 + 1 = x k by omega] at f
        exact f
      · have := h.nn k hk
        rw [show x k = 0 by omega, Int.mul_zero]
        exact Int.mul_nonneg (hv k hk) (by omega)
    rw [sum_mul, sum_mulr, hs, hT] at key
    rw [Int.mul_comm (x i + 1) T, Int.mul_comm s] at q
    omega
/-- Adams: nobody has more than his quota rounded up. -/
theorem Fr.upper (hv : ∀ q, q < n → 0 ≤ v q) (h : Fr 2 v n x) {s T : Int} (hs : sumTo x n = s) (hT : sumTo v n = T) (i : Nat) (hi : i < n) (xi : 0 < x i) : (x i - 1) * T < s * v i := by
  have vp := h.pos hv i hi xi
  have key : sumTo (fun k => v k * (x i - 1)) n < sumTo (fun k => v i * x k) n := by
    refine sum_lt (fun k hk => ?_) i hi (Int.mul_lt_mul_of_pos_left (by omega) vp)
    by_cases vk : 0 < v k
    · have f := h.num k i hk hi vk xi
      have e1 : dv 2 (x i - 1) = x i - 1 := by simp [dv]
      have e2 : dv 2 (x k) = x k := by simp [dv]
      rw [e1, e2] at f
      exact f
    · have := hv k hk
      rw [show v k = 0 by omega, Int.zero_mul]
      exact Int.mul_nonneg (by omega) (h.nn k hk)
  rw [sum_mul, sum_mulr, hs, hT] at key
  rw [Int.mul_comm (x i - 1), Int.mul_comm s]
  exact key
/-- Webster: two parties. -/
theorem Fr.two (hv : ∀ q, q < 2 → 0 < v q) (h : Fr 1 v 2 x) {s : Int} (hs : sumTo x 2 = s) :
    2 * (x 0 * (v 0 + v 1) - s * v 0) ≤ v 0 + v 1 ∧ -2 * (x 0 * (v 0 + v 1) - s * v 0) ≤ v 0 + v 1 := by
  have x0 := h.nn 0 (by omega)
  have x1 := h.nn 1 (by omega)
  have a0 := hv 0 (by omega)
  have b0 := hv 1 (by omega)
  have hs' : x 0 + x 1 = s := by rw [← hs]; simp [sumTo]
  have e : x 0 * (v 0 + v 1) - s * v 0 = x 0 * v 1 - x 1 * v 0 := by
    rw [← hs', Int.mul_add, Int.add_mul]; omega
  rw [e]
  have d1 : ∀ t : Int, dv 1 t = 2 * t + 1 := fun t => by simp [dv]
  have p0 : 0 ≤ x 0 * v 1 := Int.mul_nonneg x0 (by omega)
  have p1 : 0 ≤ x 1 * v 0 := Int.mul_nonneg x1 (by omega)
  have r1 : ∀ a b : Int, a * (2 * b + 1) = 2 * (b * a) + a := fun a b => by rw [Int.mul_add, Int.mul_one, Int.mul_comm a, Int.mul_assoc]
  have r2 : ∀ a b : Int, a * (2 * (b - 1) + 1) = 2 * (b * a) - a := fun a b => by
    rw [r1, Int.sub_mul]; omega
  constructor
  · by_cases c : 0 < x 0
    · have f := h.num 1 0 (by omega) (by omega) b0 c
      rw [d1, d1, r2, r1] at f
      omega
    · rw [show x 0 = 0 by omega, Int.zero_mul]; omega
  · by_cases c : 0 < x 1
    · have f := h.num 0 1 (by omega) (by omega) a0 c
      rw [d1, d1, r2, r1] at f
      omega
    · rw [show x 1 = 0 by omega, Int.zero_mul]; omega
end
/-- Votes that are all so many times as many. -/
theorem nx_scale (way : Int) (v h : Nat → Int) (k : Int) (k0 : 0 < k) (i : Nat) : nx way (fun j => v j * k) h i = nx way v h i := by
  induction i with
  | zero => rfl
  | succ i ih =>
    have z : (v i * k = 0) = (v i = 0) := by
      apply propext
      constructor
      · intro e
        rcases Int.mul_eq_zero.1 e with e | e
        · exact e
        · omega
      · intro e; rw [e]; simp
    have c : ∀ a b d e : Int, (a * k * d < b * k * e) = (a * d < b * e) := by
      intro a b d e
      apply propext
      rw [Int.mul_assoc, Int.mul_comm k d, ← Int.mul_assoc, Int.mul_assoc b k e, Int.mul_comm k e, ← Int.mul_assoc]
      exact ⟨fun l => Int.lt_of_mul_lt_mul_right l (by omega), fun l => Int.mul_lt_mul_of_pos_right l k0⟩
    rw [nx, nx]
    simp only [ih, z, c]
theorem dl_scale (way : Int) (v : Nat → Int) (n : Nat) (k : Int) (k0 : 0 < k) (s : Nat) : dl way (fun j => v j * k) n s = dl way v n s := by
  induction s with
  | zero => rfl
  | succ s ih => rw [dl, dl, ih, nx_scale way v _ k k0]
theorem nx_congr (way : Int) (v v' h h' : Nat → Int) (n : Nat) (e : ∀ j, j < n → v j = v' j) (f : ∀ j, j < n → h j = h' j) (i : Nat) (hi : i ≤ n) : nx way v h i = nx way v' h' i := by
  induction i with
  | zero => rfl
  | succ i ih =>
    have ih := ih (by omega)
    have r := nx_range way v' h' i
    rw [nx, nx, ih, e i (by omega), f i (by omega)]
    by_cases c : nx way v' h' i < 0
    · rw [if_pos (Or.inl c), if_pos (Or.inl c)]
    · rw [e _ (by omega), f _ (by omega)]
theorem dl_congr (way : Int) (v v' : Nat → Int) (n : Nat) (e : ∀ j, j < n → v j = v' j) (s : Nat) : ∀ j, j < n → dl way v n s j = dl way v' n s j := by
  induction s with
  | zero => intro j _; rfl
  | succ s ih =>
    intro j hj
    rw [dl, dl, nx_congr way v v' _ _ n e ih n (Nat.le_refl _)]
    by_cases c : j = (nx way v' (dl way v' n s) n).toNat
    · rw [← c, up_same, up_same, ih j hj]
    · rw [up_ne _ _ c, up_ne _ _ c, ih j hj]
/-- One without votes, behind all. -/
theorem dl_behind (way : Int) (v : Nat → Int) (n : Nat) (z : v n = 0) (s : Nat) : dl way v (n + 1) s = dl way v n s := by
  induction s with
  | zero => rfl
  | succ s ih => rw [dl, dl, ih, nx_zero z]
theorem dl_behind0 {way : Int} {v : Nat → Int} {n : Nat} (hv : ∀ q, q < n → 0 ≤ v q) (z : v n = 0) (T : 0 < sumTo v n) (s : Nat) : dl way v n s n = 0 := by
  rw [← dl_behind way v n z]
  have T' : 0 < sumTo v (n + 1) := by rw [sumTo, z]; omega
  refine (dl_fr (fun q hq => ?_) T' s).1.zero n (by omega) z
  by_cases c : q < n
  · exact hv q c
  · rw [show q = n by omega, z]; omega
/-- Two who join. -/
theorem sum_two (g : Nat → Int) (n i k : Nat) (hi : i < n) (hk : k < n) (ik : i ≠ k) : sumTo g n = sumTo (up (up g i 0) k 0) n + g i + g k := by
  rw [sumTo_up _ n k hk, sumTo_up _ n i hi, up_ne _ _ (fun e => ik e.symm)]; omega
section
variable {v v' x y : Nat → Int} {n i k : Nat}
theorem join_other (hs : sumTo x n = sumTo y n) (hi : i < n) (hk : k < n) (ik : i ≠ k) (l : y i + y k < x i + x k) : ∃ j, j < n ∧ j ≠ i ∧ j ≠ k ∧ x j < y j := by
  have a := sum_two x n i k hi hk ik
  have b := sum_two y n i k hi hk ik
  by_cases c : ∃ j, j < n ∧ j ≠ i ∧ j ≠ k ∧ x j < y j
  · exact c
  · exfalso
    have : sumTo (up (up y i 0) k 0) n ≤ sumTo (up (up x i 0) k 0) n := by
      have key : ∀ m, m ≤ n → sumTo (up (up y i 0) k 0) m ≤ sumTo (up (up x i 0) k 0) m := by
        intro m
        induction m with
        | zero => intro _; simp [sumTo]
        | succ m ih =>
          intro hm
          have ih := ih (by omega)
          rw [sumTo, sumTo]
          have : up (up y i 0) k 0 m ≤ up (up x i 0) k 0 m := by
            by_cases e1 : m = k
            · subst e1; rw [up_same, up_same]; omega
            · rw [up_ne _ _ e1, up_ne _ _ e1]
              by_cases e2 : m = i
              · subst e2; rw [up_same, up_same]; omega
              · rw [up_ne _ _ e2, up_ne _ _ e2]
                by_cases z : x m < y m
                · exact absurd ⟨m, by omega, e2, e1, z⟩ c
                · omega
          omega
      exact key n (Nat.le_refl _)
    omega
/-- Jefferson: in the first place they have no fewer. -/
theorem Fr.front (hv : ∀ q, q < n → 0 ≤ v q) (hv' : ∀ q, q < n → 0 ≤ v' q) (hx : Fr 0 v n x) (hy : Fr 0 v' n y) (hs : sumTo x n = sumTo y n) (hi : i < n) (hk : k < n) (ik : i < k)
    (vi : v' i = v i + v k) (vk : v' k = 0) (vo : ∀ j, j < n → j ≠ i → j ≠ k → v' j = v j) : x i + x k ≤ y i := by
  by_cases c : x i + x k ≤ y i
  · exact c
  · exfalso
    have yk := hy.zero k hk vk
    obtain ⟨j, hj, ji, jk, l⟩ := join_other hs hi hk (by omega) (show y i + y k < x i + x k by omega)
    have xi0 := hx.nn i hi
    have xk0 := hx.nn k hk
    have xj0 := hx.nn j hj
    have yi0 := hy.nn i hi
    have pj := hy.pos hv' j hj (by omega)
    have ej := vo j hj ji jk
    have vi0 := hv i hi
    have vk0 := hv k hk
    have d : ∀ t : Int, dv 0 t = t + 1 := fun t => by simp [dv]
    have pi : 0 < v' i := by
      rw [vi]
      by_cases z : 0 < x i
      · have := hx.pos hv i hi z; omega
      · have := hx.pos hv k hk (by omega); omega
    have f := hy.fair i j hi hj (fun e => ji e.symm) pi (by omega)
    rw [d, d, show y j - 1 + 1 = y j by omega, ej, vi] at f
    have fl := f.le
    have g1 : v j * x i ≤ v i * (x j + 1) := by
      by_cases z : 0 < x i
      · have := hx.num j i hj hi (by omega) z
        rw [d, d, show x i - 1 + 1 = x i by omega] at this
        exact this
      · rw [show x i = 0 by omega, Int.mul_zero]; exact Int.mul_nonneg vi0 (by omega)
    have g2 : v j * x k ≤ v k * (x j + 1) := by
      by_cases z : 0 < x k
      · have := hx.num j k hj hk (by omega) z
        rw [d, d, show x k - 1 + 1 = x k by omega] at this
        exact this
      · rw [show x k = 0 by omega, Int.mul_zero]; exact Int.mul_nonneg vk0 (by omega)
    have h1 : v j * (y i + 1) ≤ v j * (x i + x k) := Int.mul_le_mul_of_nonneg_left (by omega) (by omega)
    have h2 : (v i + v k) * (x j + 1) ≤ (v i + v k) * y j := Int.mul_le_mul_of_nonneg_left (by omega) (by omega)
    have e1 := Int.mul_add (v j) (x i) (x k)
    have e2 := Int.add_mul (v i) (v k) (x j + 1)
    have t := f.tie (by omega)
    rcases (show 0 < x i ∨ 0 < x k by omega) with z | z
    · have q := hx.fair j i hj hi ji (by omega) z
      rw [d, d, show x i - 1 + 1 = x i by omega] at q
      have := q.tie (by omega)
      omega
    · have q := hx.fair j k hj hk jk (by omega) z
      rw [d, d, show x k - 1 + 1 = x k by omega] at q
      have := q.tie (by omega)
      omega
/-- Adams: in the second place they have no more. -/
theorem Fr.back (hv : ∀ q, q < n → 0 ≤ v q) (hv' : ∀ q, q < n → 0 ≤ v' q) (hx : Fr 2 v n x) (hy : Fr 2 v' n y) (hs : sumTo x n = sumTo y n) (hi : i < n) (hk : k < n) (ik : i < k)
    (vi : v' i = 0) (vk : v' k = v i + v k) (vo : ∀ j, j < n → j ≠ i → j ≠ k → v' j = v j) : y k ≤ x i + x k := by
  by_cases c : y k ≤ x i + x k
  · exact c
  · exfalso
    have yi := hy.zero i hi vi
    obtain ⟨j, hj, ji, jk, l⟩ := join_other hs.symm hi hk (by omega) (show x i + x k < y i + y k by omega)
    have xi0 := hx.nn i hi
    have xk0 := hx.nn k hk
    have yj0 := hy.nn j hj
    have pk := hy.pos hv' k hk (by omega)
    have pj := hx.pos hv j hj (by omega)
    have ej := vo j hj ji jk
    have vi0 := hv i hi
    have vk0 := hv k hk
    have d : ∀ t : Int, dv 2 t = t := fun t => by simp [dv]
    have f := hy.fair j k hj hk jk (by omega) (by omega)
    rw [d, d, ej, vk] at f
    have fl := f.le
    have g1 : v i * (x j - 1) ≤ v j * x i := by
      by_cases z : 0 < v i
      · have := hx.num i j hi hj z (by omega)
        rw [d, d] at this
        exact this
      · rw [show v i = 0 by omega, Int.zero_mul]; exact Int.mul_nonneg (by omega) xi0
    have g2 : v k * (x j - 1) ≤ v j * x k := by
      by_cases z : 0 < v k
      · have := hx.num k j hk hj z (by omega)
        rw [d, d] at this
        exact this
      · rw [show v k = 0 by omega, Int.zero_mul]; exact Int.mul_nonneg (by omega) xk0
    have h1 : v j * (x i + x k) ≤ v j * (y k - 1) := Int.mul_le_mul_of_nonneg_left (by omega) (by omega)
    have h2 : (v i + v k) * y j ≤ (v i + v k) * (x j - 1) := Int.mul_le_mul_of_nonneg_left (by omega) (by omega)
    rw [Int.mul_add] at h1
    rw [Int.add_mul (v i) (v k) (x j - 1)] at h2
    have t := f.tie (by omega)
    rcases (show 0 < v i ∨ 0 < v k by omega) with z | z
    · have q := hx.fair i j hi hj (fun e => ji e.symm) z (by omega)
      rw [d, d] at q
      have := q.tie (by omega)
      omega
    · have q := hx.fair k j hk hj (fun e => jk e.symm) z (by omega)
      rw [d, d] at q
      have := q.tie (by omega)
      omega
end

end Go.Proofs.Ytpkdknddncnceaa
