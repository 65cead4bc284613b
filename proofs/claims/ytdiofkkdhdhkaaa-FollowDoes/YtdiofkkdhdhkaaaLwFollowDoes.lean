/- The walk of the law FollowDoes. -/
import Derived.Test.YtdiofkkdhdhkaaaWFo
import Derived.Test.YtdiofkkdhdhkaaaLawFCl
namespace Go.Proofs.Ytdiofkkdhdhkaaa
open Go.RowKit

theorem FollowDoes_walk (n : Int) (rs : List (Nat × Nat)) (A : Option Addr) (c a b : Nat) (w : World) (ha : a < 4294967296) (hb : b < 4294967296) (h32 : W32 rs) (hm : rs.length ≤ maxLen) (hr : Row w A (rulesC rs)) (hX : Laid w) :
    Calls Try.prog 4 #[.int .i64 n, .slice A rs.length c, .agg #[.int .u32 a, .int .u32 b]] w fun e w' => e = .returned (.bool true) ∧ Below w.heap.size w w' :=
  FollowDoes_with Does_ok n rs A c a b w ha hb h32 hm hr hX

end Go.Proofs.Ytdiofkkdhdhkaaa
