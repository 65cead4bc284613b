/- The walk of the law FollowMeet. -/
import Derived.Test.YtdiofkkdhdhkaaaWFo
import Derived.Test.YtdiofkkdhdhkaaaLawFMt
namespace Go.Proofs.Ytdiofkkdhdhkaaa
open Go.RowKit

theorem FollowMeet_walk (n : Int) (rs : List (Nat × Nat)) (A : Option Addr) (c i j : Nat) (w : World) (hi : i < 256) (hj : j < 256) (h32 : W32 rs) (hm : rs.length ≤ maxLen) (hr : Row w A (rulesC rs)) (hX : Laid w) :
    Calls Try.prog 10 #[.int .i64 n, .slice A rs.length c, .int .u8 i, .int .u8 j] w fun e w' => e = .returned (.bool true) ∧ Below w.heap.size w w' :=
  FollowMeet_with Closed_ok n rs A c i j w hi hj h32 hm hr hX

end Go.Proofs.Ytdiofkkdhdhkaaa
