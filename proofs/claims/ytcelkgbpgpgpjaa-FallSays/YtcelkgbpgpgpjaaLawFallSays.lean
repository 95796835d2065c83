/-
  The law FallSays returns true: Falling and Units answer what the reference says. Condition: the row's length is within its capacity.
-/
import Derived.Test.YtcelkgbpgpgpjaaLawFallSaysX
import Derived.Test.YtcelkgbpgpgpjaaLawFallSaysZ
namespace Go.Proofs.Ytcelkgbpgpgpjaa
open Go.RowKit

theorem fallSays_walk (c r rate m total : Int) (a : Option Addr) (n cap : Nat) (g : Nat → Int) (w : World) (hn : n ≤ 4000000000000000000) (hA : Arg w a n g) (hcap : n ≤ cap) :
    Calls Try.prog 3 #[.int .i64 c, .int .i64 r, .int .i64 rate, .int .i64 m, .int .i64 total, .slice a n cap] w fun e w' => e = .returned (.bool true) ∧ Kept w w' := by
  cases ho : okA c r m
  · rcases unE_case c r total n g with ⟨u1, ue⟩ | ⟨u1, u2, ue⟩ | ⟨u1, u2, u3, ue⟩ | ⟨u1, u2, u3, u4, ue⟩ | ⟨u1, u2, u3, u4, u5, ue⟩ | ⟨u1, u2, u3, u4, _, ue⟩
    · exact fallSays_arg1 c r rate m total a n cap g w hn hA ho u1 ue
    · exact fallSays_arg2 c r rate m total a n cap g w hn hA ho u1 u2 ue
    · exact fallSays_arg3 c r rate m total a n cap g w hn hA ho u1 u2 u3 ue
    · exact fallSays_arg4 c r rate m total a n cap g w hn hA ho u1 u2 u3 u4 ue
    · exact fallSays_arg5 c r rate m total a n cap g w hn hA ho u1 u2 u3 u4 u5 ue
    · exact fallSays_arg6 c r rate m total a n cap g w hA hcap ho u1 u2 u3 u4 ue
  · obtain ⟨h1, h2, h3, h4, h5, h6⟩ := (okA_iff c r m).1 ho
    obtain ⟨n1, rfl⟩ := Int.eq_ofNat_of_zero_le (show 0 ≤ m by omega)
    cases hr : rtB rate
    · rcases unE_case c r total n g with ⟨u1, ue⟩ | ⟨u1, u2, ue⟩ | ⟨u1, u2, u3, ue⟩ | ⟨u1, u2, u3, u4, ue⟩ | ⟨u1, u2, u3, u4, u5, ue⟩ | ⟨u1, u2, u3, u4, _, ue⟩
      · exact fallSays_rate1 c r rate n1 total a n cap g w hn hA ho hr u1 ue
      · exact fallSays_rate2 c r rate n1 total a n cap g w hn hA ho hr u1 u2 ue
      · exact fallSays_rate3 c r rate n1 total a n cap g w hn hA ho hr u1 u2 u3 ue
      · exact fallSays_rate4 c r rate n1 total a n cap g w hn hA ho hr u1 u2 u3 u4 ue
      · exact fallSays_rate5 c r rate n1 total a n cap g w hn hA ho hr u1 u2 u3 u4 u5 ue
      · exact fallSays_rate6 c r rate n1 total a n cap g w hA hcap ho hr u1 u2 u3 u4 ue
    · rcases unE_case c r total n g with ⟨u1, ue⟩ | ⟨u1, u2, ue⟩ | ⟨u1, u2, u3, ue⟩ | ⟨u1, u2, u3, u4, ue⟩ | ⟨u1, u2, u3, u4, u5, ue⟩ | ⟨u1, u2, u3, u4, _, ue⟩
      · exact fallSays_yes1 c r rate n1 total a n cap g w hn hA ho hr u1 ue
      · exact fallSays_yes2 c r rate n1 total a n cap g w hn hA ho hr u1 u2 ue
      · exact fallSays_yes3 c r rate n1 total a n cap g w hn hA ho hr u1 u2 u3 ue
      · exact fallSays_yes4 c r rate n1 total a n cap g w hn hA ho hr u1 u2 u3 u4 ue
      · exact fallSays_yes5 c r rate n1 total a n cap g w hn hA ho hr u1 u2 u3 u4 u5 ue
      · exact fallSays_yes6 c r rate n1 total a n cap g w hA hcap ho hr u1 u2 u3 u4 ue

end Go.Proofs.Ytcelkgbpgpgpjaa
