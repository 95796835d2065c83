/-
  What the reference's functions of fractions return: within, Money, Frac, abs, gcd, Lowest, Told, Mul, Round. No condition but the bounds that each theorem names.
-/
import Derived.Test.YtkbbofpjelgiiaaFWalkD
namespace Go.Proofs.Ytkbbofpjelgiiaa
open Go.RowKit

def inB (x a b : Int) : Bool := decide (a ≤ x ∧ x ≤ b)
set_option maxHeartbeats 400000 in
theorem rwithin_any (x a b : Int) (w : World) :
    Calls Try.prog 32 #[.int .i64 x, .int .i64 a, .int .i64 b] w fun e w' => e = .returned (.bool (inB x a b)) ∧ w = w' := by
  have E := Lib.hid (show inB x a b = decide (a ≤ x ∧ x ≤ b) from rfl)
  generalize inB x a b = B at *
  by_cases h : a ≤ x
  · by_cases h2 : x ≤ b
    · go_enter Try.func32, Try.ntmps32
      go_wp2
      go_ret
      exact ⟨ret_bool (by rw [E.out]; simp [h, h2]), rfl⟩
    · have hb : decide (x ≤ b) = false := by simpa using h2
      have H := Lib.hid h2
      clear h2
      go_enter Try.func32, Try.ntmps32
      go_wp2
      go_ret
      exact ⟨ret_bool (by rw [E.out]; have := H.out; simp; omega), rfl⟩
  · have hb : decide (a ≤ x) = false := by simpa using h
    have H := Lib.hid h
    clear h
    go_enter Try.func32, Try.ntmps32
    go_wp2
    go_ret
    exact ⟨ret_bool (by rw [E.out]; have := H.out; simp; omega), rfl⟩
set_option maxHeartbeats 400000 in
theorem rmoney_any (x : Int) (w : World) :
    Calls Try.prog 31 #[.int .i64 x] w fun e w' => e = .returned (.bool (inB x (-1000000000000) 1000000000000)) ∧ w = w' := by
  go_enter Try.func31, Try.ntmps31
  go_wp2_with fail
  refine (rwithin_any _ _ _ _).mono ?_
  rintro e w1 ⟨rfl, rfl⟩
  go_wp2
  go_ret
  exact ⟨rfl, rfl⟩
theorem inB_ok {n d : Int} (h : okB n d = true) : inB n (-1000000000000) 1000000000000 = true ∧ inB d 1 1000000 = true := by
  have := (ok_iff n d).1 h
  unfold inB; simp; omega
theorem inB_no {n d : Int} (h : okB n d = false) : inB n (-1000000000000) 1000000000000 = false ∨ (inB n (-1000000000000) 1000000000000 = true ∧ inB d 1 1000000 = false) := by
  have k : ¬ (-1000000000000 ≤ n ∧ n ≤ 1000000000000 ∧ 1 ≤ d ∧ d ≤ 1000000) := by rw [← ok_iff, h]; simp
  unfold inB; simp; omega

/-- What the reference's Frac says of a list. -/
def chkL : List (Int × Int) → Int
  | [] => 0
  | (n, d) :: l => if chk n d = 0 then chkL l else chk n d
theorem chkL_1 (a b : Int) : chkL [(a, b)] = chk a b := by
  unfold chkL chkL; split <;> simp [*]
theorem chkL_2 (a b c d : Int) : chkL [(a, b), (c, d)] = chk2 a b c d := by
  unfold chkL chk2; rw [chkL_1]
theorem chkL_drop (l : List (Int × Int)) (k : Nat) (hk : k < l.length) : chkL (l.drop k) = if chk l[k].1 l[k].2 = 0 then chkL (l.drop (k + 1)) else chk l[k].1 l[k].2 := by
  rw [List.drop_eq_getElem_cons hk]
  rfl
/-- A row of fractions. -/
def RowFr (w : World) (p : Nat) (l : List (Int × Int)) : Prop := p < w.heap.size ∧ ∀ j (h : j < l.length), w.cell? ⟨p, j * 2, none⟩ = some (.int .i64 l[j].1) ∧ w.cell? ⟨p, j * 2 + 1, none⟩ = some (.int .i64 l[j].2)
theorem RowFr.later {w w' : World} {p : Nat} {l : List (Int × Int)} (h : RowFr w p l) (k : Kept w w') : RowFr w' p l :=
  ⟨Nat.lt_of_lt_of_le h.1 k.le, fun j hj => ⟨(k.rd.1 _ _ h.1).trans (h.2 j hj).1, (k.rd.1 _ _ h.1).trans (h.2 j hj).2⟩⟩

set_option maxHeartbeats 1000000 in
theorem rfrac_any (l : List (Int × Int)) (p : Nat) (w : World) (hl : l.length ≤ 1000) (hR : RowFr w p l) :
    Calls Try.prog 15 #[.slice (some ⟨p, 0, none⟩) l.length l.length] w fun e w' => e = .returned (.int .i64 (chkL l)) ∧ Kept w w' := by
  go_enter Try.func15, Try.ntmps15
  go_wp2
  go_loopw [7] (fun i wr => ∃ k : Nat, k ≤ l.length ∧ i = .int .i64 k ∧ chkL (l.drop k) = chkL l ∧ Kept w wr) (fun i _ => (l.length - intOf i).toNat)
  case atStart => exact ⟨0, by omega, rfl, rfl, Kept.refl w⟩
  case round =>
    obtain ⟨k, hk, rfl, hc, hK⟩ := hrel
    have HC := Lib.hid hc
    clear hc
    by_cases hlt : k < l.length
    · obtain ⟨c0, c1⟩ := (hR.later hK).2 k hlt
      have HD := Lib.hid (chkL_drop l k hlt)
      generalize l[k].1 = n at *
      generalize l[k].2 = d at *
      cases ho : okB n d
      · have E : chkL l = chk n d := by
          rw [← HC.out, HD.out, if_neg]; rw [chk_iff, ho]; simp
        by_cases hd : d = 0
        · subst hd
          have HE := Lib.hid (show chkL l = 6 by rw [E]; simp [chk])
          clear E ho HD HC
          go_wp2
          go_ret
          exact ⟨ret_int HE.out.symm, hK.alloc _⟩
        · have HE := Lib.hid (show chkL l = 1 by rw [E]; unfold chk; rw [if_neg hd, ho]; rfl)
          have hdb : (d == 0) = false := by rw [beq_eq_false_iff_ne]; exact hd
          have t := inB_no ho
          clear E ho HD HC hd
          go_wp2_with fail
          refine (rmoney_any _ _).mono ?_
          rintro e w2 ⟨rfl, rfl⟩
          rcases t with t | ⟨t, u⟩
          · rw [t]
            go_wp2
            go_ret
            exact ⟨ret_int HE.out.symm, hK.alloc _⟩
          · rw [t]
            go_wp2_with fail
            refine (rwithin_any _ _ _ _).mono ?_
            rintro e w2 ⟨rfl, rfl⟩
            rw [u]
            go_wp2
            go_ret
            exact ⟨ret_int HE.out.symm, hK.alloc _⟩
      · have E := Lib.hid (show chkL (l.drop (k + 1)) = chkL l by
          rw [← HC.out, HD.out, if_pos (chk_ok ho)])
        have hdb : (d == 0) = false := by rw [beq_eq_false_iff_ne]; have := (ok_iff n d).1 ho; omega
        obtain ⟨t, u⟩ := inB_ok ho
        clear ho HD HC
        have T := Lib.hid t
        have U := Lib.hid u
        clear t u
        go_wp2_with fail
        refine (rmoney_any _ _).mono ?_
        rintro e w2 ⟨rfl, rfl⟩
        rw [T.out]
        go_wp2_with fail
        refine (rwithin_any _ _ _ _).mono ?_
        rintro e w2 ⟨rfl, rfl⟩
        rw [U.out]
        go_wp2
        go_roundw
        case rel => exact ⟨k + 1, by omega, by go_num, E.out, hK.alloc _⟩
        case measure => simp [intOf]; omega
    · obtain rfl : k = l.length := by omega
      clear hlt
      go_wp2
      go_ret
      exact ⟨ret_int (by rw [← HC.out]; simp [chkL]), hK⟩

theorem rabs_any (n : Int) (w : World) (h0 : -4000000000000000000 ≤ n) (h1 : n ≤ 4000000000000000000) :
    Calls Try.prog 34 #[.int .i64 n] w fun e w' => e = .returned (.int .i64 n.natAbs) ∧ w = w' := by
  rcases (show n < 0 ∨ n = 0 ∨ 0 < n by omega) with h | h | h
  · go_enter Try.func34, Try.ntmps34
    go_wp2
    all_goals go_ret
    all_goals exact ⟨ret_int (by omega), rfl⟩
  · subst h
    go_enter Try.func34, Try.ntmps34
    go_wp2
    all_goals go_ret
    all_goals exact ⟨ret_int (by omega), rfl⟩
  · go_enter Try.func34, Try.ntmps34
    go_wp2
    all_goals go_ret
    all_goals exact ⟨ret_int (by omega), rfl⟩

/-! The reference's common divisor, by halves. -/
/-- The divisor, as an integer. -/
def gz (a b : Int) : Int := (Nat.gcd a.toNat b.toNat : Nat)
theorem gz_nat (a b : Int) (ha : 0 ≤ a) (hb : 0 ≤ b) : ∃ x y : Nat, a = x ∧ b = y ∧ gz a b = (Nat.gcd x y : Nat) := by
  refine ⟨a.toNat, b.toNat, by omega, by omega, rfl⟩
theorem gz_00 (a b : Int) (ha : 0 ≤ a) (hb : 0 ≤ b) (h : a = 0 ∨ b = 0) : a + b = gz a b := by
  unfold gz
  rcases h with rfl | rfl
  · simp; omega
  · simp; omega
theorem gz_ee (a b : Int) (ha : 0 ≤ a) (hb : 0 ≤ b) (h : a % 2 = 0) (k : b % 2 = 0) : 2 * gz (a / 2) (b / 2) = gz a b := by
  unfold gz
  have e1 : a.toNat = 2 * (a / 2).toNat := by omega
  have e2 : b.toNat = 2 * (b / 2).toNat := by omega
  rw [e1, e2, Nat.gcd_mul_left]; omega
theorem gcd_half (x y : Nat) (hy : y % 2 = 1) : Nat.gcd (2 * x) y = Nat.gcd x y := by
  have c : Nat.Coprime 2 y := by
    unfold Nat.Coprime
    rw [Nat.gcd_rec, hy]; simp
  exact Nat.Coprime.gcd_mul_left_cancel x c
theorem gz_eo (a b : Int) (ha : 0 ≤ a) (hb : 0 ≤ b) (h : a % 2 = 0) (k : b % 2 = 1) : gz (a / 2) b = gz a b := by
  unfold gz
  have e1 : a.toNat = 2 * (a / 2).toNat := by omega
  rw [e1, gcd_half _ _ (by omega)]
theorem gz_comm (a b : Int) : gz a b = gz b a := by unfold gz; rw [Nat.gcd_comm]
theorem gz_oe (a b : Int) (ha : 0 ≤ a) (hb : 0 ≤ b) (h : a % 2 = 1) (k : b % 2 = 0) : gz a (b / 2) = gz a b := by
  rw [gz_comm a, gz_comm a]; exact gz_eo b a hb ha k h
theorem gz_ool (a b : Int) (ha : 0 ≤ a) (hb : 0 ≤ b) (h : a % 2 = 1) (k : b % 2 = 1) (hl : a < b) : gz a ((b - a) / 2) = gz a b := by
  unfold gz
  have e1 : b.toNat = 2 * ((b - a) / 2).toNat + a.toNat := by omega
  have e3 : Nat.gcd a.toNat b.toNat = Nat.gcd a.toNat (2 * ((b - a) / 2).toNat) := by rw [e1]; exact Nat.gcd_add_self_right _ _
  rw [e3, Nat.gcd_comm _ (2 * _), gcd_half _ _ (by omega), Nat.gcd_comm]
theorem gz_oog (a b : Int) (ha : 0 ≤ a) (hb : 0 ≤ b) (h : a % 2 = 1) (k : b % 2 = 1) (hl : b ≤ a) : gz ((a - b) / 2) b = gz a b := by
  by_cases e : a = b
  · subst e; unfold gz; simp
  · rw [gz_comm, gz_comm a]; exact gz_ool b a hb ha k h (by omega)
theorem gz_le (a b : Int) (ha : 0 ≤ a) (hb : 0 ≤ b) : 0 ≤ gz a b ∧ gz a b ≤ a + b := by
  unfold gz
  refine ⟨by omega, ?_⟩
  by_cases z : a = 0
  · subst z; simp; omega
  · have := Nat.gcd_le_left b.toNat (show 0 < a.toNat by omega)
    omega

set_option maxHeartbeats 1000000 in
theorem rgcd_any (m : Nat) : ∀ (a b : Int) (w : World), (a + b).toNat ≤ m → 0 ≤ a → a ≤ 4000000000000000000 → 0 ≤ b → b ≤ 4000000000000000000 →
    Calls Try.prog 33 #[.int .i64 a, .int .i64 b] w fun e w' => e = .returned (.int .i64 (gz a b)) ∧ w = w' := by
  induction m with
  | zero =>
    intro a b w hm a0 a1 b0 b1
    obtain rfl : a = 0 := by omega
    obtain rfl : b = 0 := by omega
    have E := Lib.hid (show gz 0 0 = 0 by decide)
    generalize gz 0 0 = G at *
    clear hm a0 a1 b0 b1
    go_enter Try.func33, Try.ntmps33
    go_wp2
    go_ret
    exact ⟨ret_int E.out.symm, rfl⟩
  | succ m ih =>
    intro a b w hm a0 a1 b0 b1
    have IH := Lib.hid ih
    clear ih
    by_cases za : a = 0
    · subst za
      have E := Lib.hid (gz_00 0 b (by omega) b0 (.inl rfl))
      generalize gz 0 b = G at *
      clear hm
      go_enter Try.func33, Try.ntmps33
      go_wp2
      go_ret
      exact ⟨ret_int (by have := E.out; omega), rfl⟩
    have hab : (a == 0) = false := by rw [beq_eq_false_iff_ne]; exact za
    by_cases zb : b = 0
    · subst zb
      have E := Lib.hid (gz_00 a 0 a0 (by omega) (.inr rfl))
      generalize gz a 0 = G at *
      clear hm za
      go_enter Try.func33, Try.ntmps33
      go_wp2
      go_ret
      exact ⟨ret_int (by have := E.out; omega), rfl⟩
    have hbb : (b == 0) = false := by rw [beq_eq_false_iff_ne]; exact zb
    have p1 : 1 ≤ a := by omega
    have p2 : 1 ≤ b := by omega
    clear za zb
    rcases (show (a % 2 = 0 ∧ b % 2 = 0) ∨ (a % 2 = 0 ∧ b % 2 = 1) ∨ (a % 2 = 1 ∧ b % 2 = 0) ∨ (a % 2 = 1 ∧ b % 2 = 1 ∧ a < b) ∨ (a % 2 = 1 ∧ b % 2 = 1 ∧ b ≤ a) by omega) with ⟨q1, q2⟩ | ⟨q1, q2⟩ | ⟨q1, q2⟩ | ⟨q1, q2, q3⟩ | ⟨q1, q2, q3⟩
    · have E := Lib.hid (gz_ee a b a0 b0 q1 q2)
      have L := gz_le (a / 2) (b / 2) (by omega) (by omega)
      have e1 : (a % 2 == 0) = true := by rw [beq_iff_eq]; exact q1
      have e2 : (b % 2 == 0) = true := by rw [beq_iff_eq]; exact q2
      clear q1 q2
      go_enter Try.func33, Try.ntmps33
      go_wp2_with fail
      refine (IH.out _ _ _ (by omega) (by omega) (by omega) (by omega) (by omega)).mono ?_
      rintro e w1 ⟨rfl, rfl⟩
      go_wp2
      go_ret
      exact ⟨ret_int E.out, rfl⟩
    · have E := Lib.hid (gz_eo a b a0 b0 q1 q2)
      have e1 : (a % 2 == 0) = true := by rw [beq_iff_eq]; exact q1
      have e2 : (b % 2 == 0) = false := by rw [beq_eq_false_iff_ne]; omega
      clear q1 q2
      go_enter Try.func33, Try.ntmps33
      go_wp2_with fail
      refine (IH.out _ _ _ (by omega) (by omega) (by omega) (by omega) (by omega)).mono ?_
      rintro e w1 ⟨rfl, rfl⟩
      go_wp2
      go_ret
      exact ⟨ret_int E.out, rfl⟩
    · have E := Lib.hid (gz_oe a b a0 b0 q1 q2)
      have e1 : (a % 2 == 0) = false := by rw [beq_eq_false_iff_ne]; omega
      have e2 : (b % 2 == 0) = true := by rw [beq_iff_eq]; exact q2
      clear q1 q2
      go_enter Try.func33, Try.ntmps33
      go_wp2_with fail
      refine (IH.out _ _ _ (by omega) (by omega) (by omega) (by omega) (by omega)).mono ?_
      rintro e w1 ⟨rfl, rfl⟩
      go_wp2
      go_ret
      exact ⟨ret_int E.out, rfl⟩
    · have E := Lib.hid (gz_ool a b a0 b0 q1 q2 q3)
      have e1 : (a % 2 == 0) = false := by rw [beq_eq_false_iff_ne]; omega
      have e2 : (b % 2 == 0) = false := by rw [beq_eq_false_iff_ne]; omega
      clear q1 q2
      go_enter Try.func33, Try.ntmps33
      go_wp2_with fail
      refine (IH.out _ _ _ (by omega) (by omega) (by omega) (by omega) (by omega)).mono ?_
      rintro e w1 ⟨rfl, rfl⟩
      go_wp2
      go_ret
      exact ⟨ret_int E.out, rfl⟩
    · have E := Lib.hid (gz_oog a b a0 b0 q1 q2 q3)
      have e1 : (a % 2 == 0) = false := by rw [beq_eq_false_iff_ne]; omega
      have e2 : (b % 2 == 0) = false := by rw [beq_eq_false_iff_ne]; omega
      clear q1 q2
      go_enter Try.func33, Try.ntmps33
      go_wp2_with fail
      refine (IH.out _ _ _ (by omega) (by omega) (by omega) (by omega) (by omega)).mono ?_
      rintro e w1 ⟨rfl, rfl⟩
      go_wp2
      go_ret
      exact ⟨ret_int E.out, rfl⟩

end Go.Proofs.Ytkbbofpjelgiiaa
