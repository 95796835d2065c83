/-
  Deal at the rows of the laws' own tests; Deal and Quotas in one contract each. No condition but those that each theorem names.
-/
import Derived.Test.YtpkdknddncnceaaDWalkB
namespace Go.Proofs.Ytpkdknddncnceaa
open Go.RowKit

def lit (l : List Int) : Nat → Int := fun j => l.getD j 0
theorem tab_lit (l : List Int) : tab l.length (lit l) = l := (tab_list l).symm
instance (wt : Nat → Int) (n : Nat) : Decidable (WtOk wt n) := decidable_of_iff _ (okWts_iff wt n)
/-- What Within gives. -/
def wn (k n : Int) : Int := wrap64 ((IntKind.u64.wrap k).tmod n)
theorem wn_bd (k n : Int) (h0 : 1 ≤ n) (h1 : n ≤ 2000000000000) : 0 ≤ wn k n ∧ wn k n < n := by
  have h2 : 0 ≤ IntKind.u64.wrap k := wrap_u64_nonneg k
  have h3 : (IntKind.u64.wrap k).tmod n = IntKind.u64.wrap k % n := Int.tmod_eq_emod_of_nonneg h2
  have h4 : 0 ≤ IntKind.u64.wrap k % n := Int.emod_nonneg _ (by omega)
  have h5 : IntKind.u64.wrap k % n < n := Int.emod_lt_of_pos _ (by omega)
  unfold wn
  rw [h3, show wrap64 (IntKind.u64.wrap k % n) = IntKind.u64.wrap k % n from by unfold wrap64; omega]
  exact ⟨h4, h5⟩
set_option maxHeartbeats 400000 in
theorem within_eq (k n : Int) (w : World) (h0 : 1 ≤ n) (h1 : n ≤ 2000000000000) :
    Calls Try.prog 18 #[.int .i64 k, .int .i64 n] w fun e w' => e = .returned (.int .i64 (wn k n)) ∧ w = w' := by
  go_enter Try.func18, Try.ntmps18
  go_wp2
  go_ret
  exact ⟨rfl, rfl⟩
/-- Deal at a written row. -/
theorem deal_lit (way N : Int) (n : Nat) (l x : List Int) (p cap : Nat) (w : World) (hn : l.length = n) (h0 : 0 ≤ way) (h2 : way ≤ 2) (hl : totE N n (lit l) = 0) (hx : tab n (dl way (lit l) n N.toNat) = x) (hR : Rd w p 0 l) :
    Calls Try.prog 12 #[.int .i64 way, .int .i64 N, .slice (some ⟨p, 0, none⟩) n cap] w fun e w' => ∃ q : Nat, w.heap.size ≤ q ∧ e = .returned (.tuple #[.slice (some ⟨q, 0, none⟩) n n, .int .i64 0]) ∧ Own w' q x ∧ Kept w w' := by
  subst hn
  have T := totE_tot hl
  obtain ⟨s, rfl⟩ := Int.eq_ofNat_of_zero_le T.N0
  refine (deal_yes way s _ l.length cap (lit l) w (Arg.of (by rw [tab_lit]; exact hR)) h0 h2 T).mono ?_
  rintro e w1 ⟨q, hq, rfl, hO, hK⟩
  exact ⟨q, hq, rfl, by rw [← hx]; exact hO, hK⟩
theorem equal_lit (x : List Int) (m : Nat) (q p cap cap' : Nat) (w : World) (hm : x.length = m) (hn : m ≤ 1000) (hR : Rd w q 0 x) (hQ : Rd w p 0 x) :
    Calls Try.prog 15 #[.slice (some ⟨q, 0, none⟩) m cap, .slice (some ⟨p, 0, none⟩) m cap'] w fun e w' => e = .returned (.bool true) ∧ Drew w w' := by
  subst hm
  exact equal_yes (lit x) q 0 cap p 0 cap' x.length w hn (by rw [tab_lit]; exact hR) (by rw [tab_lit]; exact hQ)

end Go.Proofs.Ytpkdknddncnceaa
