/- The walk of the law FollowKey. -/
import Derived.Test.YtdiofkkdhdhkaaaWFo
import Derived.Test.YtdiofkkdhdhkaaaLawFKy
namespace Go.Proofs.Ytdiofkkdhdhkaaa
open Go.RowKit

theorem FollowKey_walk (n : Int) (rs : List (Nat × Nat)) (A : Option Addr) (c : Nat) (w : World) (h32 : W32 rs) (hm : rs.length ≤ maxLen) (hr : Row w A (rulesC rs)) (hX : Laid w) :
    Calls Try.prog 11 #[.int .i64 n, .slice A rs.length c] w fun e w' => e = .returned (.bool true) ∧ Below w.heap.size w w' :=
  FollowKey_with Keys_ok n rs A c w h32 hm hr hX

end Go.Proofs.Ytdiofkkdhdhkaaa
