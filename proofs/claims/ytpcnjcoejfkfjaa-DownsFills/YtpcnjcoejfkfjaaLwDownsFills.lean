/- The walk of the law DownsFills. -/
import Derived.Test.YtpcnjcoejfkfjaaWAll
import Derived.Test.YtpcnjcoejfkfjaaLawEdge
namespace Go.Proofs.Ytpcnjcoejfkfjaa
open Go.RowKit

theorem DownsFills_walk (n : Int) (ps : List (Int × Int)) (A : Option Addr) (c s : Nat) (w : World) (hs : s < 4294967296) (hm : ps.length ≤ maxLen) (hr : Row w A (pairsC ps)) :
    Calls Try.prog 5 #[.int .i64 n, .slice A ps.length c, .int .u32 s] w fun e w' => e = .returned (.bool true) ∧ Below w.heap.size w w' :=
  DownsFills_with Fill_ok n ps A c s w hs hm hr trivial

end Go.Proofs.Ytpcnjcoejfkfjaa
