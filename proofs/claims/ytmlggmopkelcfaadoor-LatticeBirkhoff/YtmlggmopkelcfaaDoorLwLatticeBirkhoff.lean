/- The walk of the law LatticeBirkhoff. -/
import Derived.Test.YtmlggmopkelcfaaDoorWKind
import Derived.Test.YtmlggmopkelcfaaDoorWIrr
import Derived.Test.YtmlggmopkelcfaaDoorWAll
import Derived.Test.YtmlggmopkelcfaaDoorLawBirk
namespace Go.Proofs.YtmlggmopkelcfaaDoor
open Go.RowKit

theorem LatticeBirkhoff_walk (n : Int) (ps : List (Int × Int)) (A : Option Addr) (c : Nat) (w : World) (hm : ps.length ≤ maxLen) (hr : Row w A (pairsC ps)) (hX : Laid w) :
    Calls Tryd.prog 3 #[.int .i64 n, .slice A ps.length c] w fun e w' => e = .returned (.bool true) ∧ Below w.heap.size w w' :=
  LatticeBirkhoff_with Shared_ok Irreducible_ok Many_ok n ps A c w hm hr hX

end Go.Proofs.YtmlggmopkelcfaaDoor
