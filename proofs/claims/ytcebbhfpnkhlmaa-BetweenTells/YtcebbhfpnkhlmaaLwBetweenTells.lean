/- The walk of the law BetweenTells. -/
import Derived.Test.YtcebbhfpnkhlmaaWKo
import Derived.Test.YtcebbhfpnkhlmaaLawK3
namespace Go.Proofs.Ytcebbhfpnkhlmaa
open Go.RowKit

theorem BetweenTells_walk (n : Int) (f : List Bool) (A : Option Addr) (c : Nat) (g : List Bool) (A2 : Option Addr) (c2 : Nat) (sh : Nat) (w : World) (hs32 : sh < 4294967296) (hm : f.length ≤ maxLen) (hr : Row w A (boolsC f)) (hm2 : g.length ≤ maxLen) (hr2 : Row w A2 (boolsC g)) (hX : Laid w) :
    Calls Try.prog 6 #[.int .i64 n, .slice A f.length c, .slice A2 g.length c2, .int .u32 sh] w fun e w' => e = .returned (.bool true) ∧ Below w.heap.size w w' :=
  BetweenTells_with KBetween_ok n f A c g A2 c2 sh w hs32 hm hr hm2 hr2 hX

end Go.Proofs.Ytcebbhfpnkhlmaa
