/- The walk of the law LatticeModulars. -/
import Derived.Test.YtogjkkaohaljpaaDoorWKind
import Derived.Test.YtogjkkaohaljpaaDoorLawShares
namespace Go.Proofs.YtogjkkaohaljpaaDoor
open Go.RowKit

theorem LatticeModulars_walk (n : Int) (ps : List (Int × Int)) (A : Option Addr) (c : Nat) (w : World) (hm : ps.length ≤ maxLen) (hr : Row w A (pairsC ps)) (hX : Laid w) :
    Calls Tryd.prog 7 #[.int .i64 n, .slice A ps.length c] w fun e w' => e = .returned (.bool true) ∧ Below w.heap.size w w' :=
  LatticeModulars_with Modular_ok n ps A c w hm hr hX

end Go.Proofs.YtogjkkaohaljpaaDoor
