/- The walk of the law FollowClose. -/
import Derived.Test.YtdiofkkdhdhkaaaWFo
import Derived.Test.YtdiofkkdhdhkaaaLawFCl
namespace Go.Proofs.Ytdiofkkdhdhkaaa
open Go.RowKit

theorem FollowClose_walk (n : Int) (rs : List (Nat × Nat)) (A : Option Addr) (c s t : Nat) (w : World) (hs : s < 4294967296) (ht : t < 4294967296) (h32 : W32 rs) (hm : rs.length ≤ maxLen) (hr : Row w A (rulesC rs)) (hX : Laid w) :
    Calls Try.prog 8 #[.int .i64 n, .slice A rs.length c, .int .u32 s, .int .u32 t] w fun e w' => e = .returned (.bool true) ∧ Below w.heap.size w w' :=
  FollowClose_with Close_ok n rs A c s t w hs ht h32 hm hr hX

end Go.Proofs.Ytdiofkkdhdhkaaa
