/-
  The laws' Within for greater bounds; the reference's Rate and Round. No condition but those that each theorem names.
-/
import Derived.Test.YtpkdknddncnceabMWalkA
namespace Go.Proofs.Ytpkdknddncnceab
open Go.RowKit

theorem within_valM (k n : Int) (w : World) (h0 : 1 ≤ n) (h1 : n ≤ 4000000000000000000) : SomeBelow n w (.returned (.int .i64 (wrap64 ((IntKind.u64.wrap k).tmod n)))) w := by
  have h2 : 0 ≤ IntKind.u64.wrap k := wrap_u64_nonneg k
  have h3 : (IntKind.u64.wrap k).tmod n = IntKind.u64.wrap k % n := Int.tmod_eq_emod_of_nonneg h2
  have h4 : 0 ≤ IntKind.u64.wrap k % n := Int.emod_nonneg _ (by omega)
  have h5 : IntKind.u64.wrap k % n < n := Int.emod_lt_of_pos _ (by omega)
  rw [h3]
  refine ⟨IntKind.u64.wrap k % n, h4, h5, ?_, rfl⟩
  rw [show wrap64 (IntKind.u64.wrap k % n) = IntKind.u64.wrap k % n from by unfold wrap64; omega]
set_option maxHeartbeats 400000 in
theorem within_anyM (k n : Int) (w : World) (h0 : 1 ≤ n) (h1 : n ≤ 4000000000000000000) :
    Calls Try.prog 15 #[.int .i64 k, .int .i64 n] w (SomeBelow n w) := by
  go_enter Try.func15, Try.ntmps15
  go_wp2
  go_ret
  exact within_valM k n w h0 h1

end Go.Proofs.Ytpkdknddncnceab
