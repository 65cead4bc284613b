/- The walk of the law FollowLeasts. -/
import Derived.Test.YtdiofkkdhdhkaaaWFo
import Derived.Test.YtdiofkkdhdhkaaaLawFLe
namespace Go.Proofs.Ytdiofkkdhdhkaaa
open Go.RowKit

theorem FollowLeasts_walk (n : Int) (rs : List (Nat × Nat)) (A : Option Addr) (c : Nat) (w : World) (h32 : W32 rs) (hm : rs.length ≤ maxLen) (hr : Row w A (rulesC rs)) (hX : Laid w) :
    Calls Try.prog 7 #[.int .i64 n, .slice A rs.length c] w fun e w' => e = .returned (.bool true) ∧ Below w.heap.size w w' :=
  FollowLeasts_with Least_ok n rs A c w h32 hm hr hX

end Go.Proofs.Ytdiofkkdhdhkaaa
