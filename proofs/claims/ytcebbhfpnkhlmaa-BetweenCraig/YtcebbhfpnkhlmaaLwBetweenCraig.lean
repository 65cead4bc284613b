/- The walk of the law BetweenCraig. -/
import Derived.Test.YtcebbhfpnkhlmaaWKo
import Derived.Test.YtcebbhfpnkhlmaaLawK6
namespace Go.Proofs.Ytcebbhfpnkhlmaa
open Go.RowKit

theorem BetweenCraig_walk (n : Int) (f : List Bool) (A : Option Addr) (c : Nat) (g : List Bool) (A2 : Option Addr) (c2 : Nat) (own other : Nat) (w : World) (ho : own < 4294967296) (ht : other < 4294967296) (hm : f.length ≤ maxLen) (hr : Row w A (boolsC f)) (hm2 : g.length ≤ maxLen) (hr2 : Row w A2 (boolsC g)) (hX : Laid w) :
    Calls Try.prog 8 #[.int .i64 n, .slice A f.length c, .slice A2 g.length c2, .int .u32 own, .int .u32 other] w fun e w' => e = .returned (.bool true) ∧ Below w.heap.size w w' :=
  BetweenCraig_with KLeast_ok KMost_ok KFollows_ok KBetween_ok n f A c g A2 c2 own other w ho ht hm hr hm2 hr2 hX

end Go.Proofs.Ytcebbhfpnkhlmaa
