/- The walk of the law BetweenTolds. -/
import Derived.Test.YtcebbhfpnkhlmaaWKo
import Derived.Test.YtcebbhfpnkhlmaaLawK2
namespace Go.Proofs.Ytcebbhfpnkhlmaa
open Go.RowKit

theorem BetweenTolds_walk (n : Int) (f : List Bool) (A : Option Addr) (c : Nat) (v : Int) (w : World) (hm : f.length ≤ maxLen) (hr : Row w A (boolsC f)) (hX : Laid w) :
    Calls Try.prog 7 #[.int .i64 n, .slice A f.length c, .int .i64 v] w fun e w' => e = .returned (.bool true) ∧ Below w.heap.size w w' :=
  BetweenTolds_with KTold_ok n f A c v w hm hr hX

end Go.Proofs.Ytcebbhfpnkhlmaa
