/- The walk of the law LatticeMeets. -/
import Derived.Test.YtogjkkaohaljpaaDoorWJoin
import Derived.Test.YtogjkkaohaljpaaDoorLawJoins
namespace Go.Proofs.YtogjkkaohaljpaaDoor
open Go.RowKit

theorem LatticeMeets_walk (n : Int) (ps : List (Int × Int)) (A : Option Addr) (c : Nat) (a b : Int) (w : World) (hm : ps.length ≤ maxLen) (hr : Row w A (pairsC ps)) (hX : Laid w) :
    Calls Tryd.prog 4 #[.int .i64 n, .slice A ps.length c, .int .i64 a, .int .i64 b] w fun e w' => e = .returned (.bool true) ∧ Below w.heap.size w w' :=
  LatticeMeets_with Meet_ok n ps A c a b w hm hr hX

end Go.Proofs.YtogjkkaohaljpaaDoor
