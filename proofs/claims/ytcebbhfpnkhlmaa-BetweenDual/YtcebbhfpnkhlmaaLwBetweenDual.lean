/- The walk of the law BetweenDual. -/
import Derived.Test.YtcebbhfpnkhlmaaWKo
import Derived.Test.YtcebbhfpnkhlmaaLawK4
namespace Go.Proofs.Ytcebbhfpnkhlmaa
open Go.RowKit

theorem BetweenDual_walk (n : Int) (f : List Bool) (A : Option Addr) (c : Nat) (keep : Nat) (w : World) (hk : keep < 4294967296) (hm : f.length ≤ maxLen) (hr : Row w A (boolsC f)) (hX : Laid w) :
    Calls Try.prog 9 #[.int .i64 n, .slice A f.length c, .int .u32 keep] w fun e w' => e = .returned (.bool true) ∧ Below w.heap.size w w' :=
  BetweenDual_with KLeast_ok KMost_ok n f A c keep w hk hm hr hX

end Go.Proofs.Ytcebbhfpnkhlmaa
