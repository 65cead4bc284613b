/- The walk of the law TwoReaches. -/
import Derived.Test.YtekeeodnjlebcaaDoorWJo
import Derived.Test.YtekeeodnjlebcaaDoorLawJ1
namespace Go.Proofs.YtekeeodnjlebcaaDoor
open Go.RowKit

theorem TwoReaches_walk (n : Int) (rs : List Cla) (A : Option Addr) (c : Nat) (w : World) (h32 : W32 rs) (hm : rs.length ≤ maxLen) (hr : Row w A (rulesC rs)) (hX : Laid w) :
    Calls Tryd.prog 3 #[.int .i64 n, .slice A rs.length c] w fun e w' => e = .returned (.bool true) ∧ Below w.heap.size w w' :=
  TwoReaches_with JReach_ok n rs A c w h32 hm hr hX

end Go.Proofs.YtekeeodnjlebcaaDoor
