/- The walk of the law BetweenBeth. -/
import Derived.Test.YtcebbhfpnkhlmaaWKo
import Derived.Test.YtcebbhfpnkhlmaaLawK5
namespace Go.Proofs.Ytcebbhfpnkhlmaa
open Go.RowKit

theorem BetweenBeth_walk (n : Int) (f : List Bool) (A : Option Addr) (c : Nat) (v : Int) (w : World) (hm : f.length ≤ maxLen) (hr : Row w A (boolsC f)) (hX : Laid w) :
    Calls Try.prog 10 #[.int .i64 n, .slice A f.length c, .int .i64 v] w fun e w' => e = .returned (.bool true) ∧ Below w.heap.size w w' :=
  BetweenBeth_with KTold_ok KLeast_ok n f A c v w hm hr hX

end Go.Proofs.Ytcebbhfpnkhlmaa
