/- The walk of the law TwoTurn. -/
import Derived.Test.YtekeeodnjlebcaaDoorWJo
import Derived.Test.YtekeeodnjlebcaaDoorLawJ2
namespace Go.Proofs.YtekeeodnjlebcaaDoor
open Go.RowKit

theorem TwoTurn_walk (n : Int) (rs : List Cla) (A : Option Addr) (c i j : Nat) (w : World) (hi : i < 256) (hj : j < 256) (h32 : W32 rs) (hm : rs.length ≤ maxLen) (hr : Row w A (rulesC rs)) (hX : Laid w) :
    Calls Tryd.prog 6 #[.int .i64 n, .slice A rs.length c, .int .u8 i, .int .u8 j] w fun e w' => e = .returned (.bool true) ∧ Below w.heap.size w w' :=
  TwoTurn_with JReach_ok n rs A c i j w hi hj h32 hm hr hX

end Go.Proofs.YtekeeodnjlebcaaDoor
