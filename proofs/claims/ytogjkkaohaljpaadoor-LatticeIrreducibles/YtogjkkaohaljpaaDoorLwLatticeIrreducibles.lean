/- The walk of the law LatticeIrreducibles. -/
import Derived.Test.YtogjkkaohaljpaaDoorWIrr
import Derived.Test.YtogjkkaohaljpaaDoorLawShares
namespace Go.Proofs.YtogjkkaohaljpaaDoor
open Go.RowKit

theorem LatticeIrreducibles_walk (n : Int) (ps : List (Int × Int)) (A : Option Addr) (c : Nat) (w : World) (hm : ps.length ≤ maxLen) (hr : Row w A (pairsC ps)) (hX : Laid w) :
    Calls Tryd.prog 8 #[.int .i64 n, .slice A ps.length c] w fun e w' => e = .returned (.bool true) ∧ Below w.heap.size w w' :=
  LatticeIrreducibles_with Irreducible_ok n ps A c w hm hr hX

end Go.Proofs.YtogjkkaohaljpaaDoor
