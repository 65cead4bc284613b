/- The walk of the law BetweenFollows. -/
import Derived.Test.YtcebbhfpnkhlmaaWKo
import Derived.Test.YtcebbhfpnkhlmaaLawK1
namespace Go.Proofs.Ytcebbhfpnkhlmaa
open Go.RowKit

theorem BetweenFollows_walk (n : Int) (f : List Bool) (A : Option Addr) (c : Nat) (g : List Bool) (A2 : Option Addr) (c2 : Nat) (w : World) (hm : f.length ≤ maxLen) (hr : Row w A (boolsC f)) (hm2 : g.length ≤ maxLen) (hr2 : Row w A2 (boolsC g)) (hX : Laid w) :
    Calls Try.prog 3 #[.int .i64 n, .slice A f.length c, .slice A2 g.length c2] w fun e w' => e = .returned (.bool true) ∧ Below w.heap.size w w' :=
  BetweenFollows_with KFollows_ok n f A c g A2 c2 w hm hr hm2 hr2 hX

end Go.Proofs.Ytcebbhfpnkhlmaa
