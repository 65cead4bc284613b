/- The walk of the law FollowArmstrong. -/
import Derived.Test.YtdiofkkdhdhkaaaWFo
import Derived.Test.YtdiofkkdhdhkaaaLawFAr
namespace Go.Proofs.Ytdiofkkdhdhkaaa
open Go.RowKit

theorem FollowArmstrong_walk (n : Int) (rs : List (Nat × Nat)) (A : Option Addr) (cc a b c : Nat) (w : World) (ha : a < 4294967296) (hb : b < 4294967296) (hc : c < 4294967296) (h32 : W32 rs) (hm : rs.length ≤ maxLen) (hr : Row w A (rulesC rs)) (hX : Laid w) :
    Calls Try.prog 9 #[.int .i64 n, .slice A rs.length cc, .int .u32 a, .int .u32 b, .int .u32 c] w fun e w' => e = .returned (.bool true) ∧ Below w.heap.size w w' :=
  FollowArmstrong_with Does_ok n rs A cc a b c w ha hb hc h32 hm hr hX

end Go.Proofs.Ytdiofkkdhdhkaaa
