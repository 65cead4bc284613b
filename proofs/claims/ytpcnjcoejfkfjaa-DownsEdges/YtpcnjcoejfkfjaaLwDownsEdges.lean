/- The walk of the law DownsEdges. -/
import Derived.Test.YtpcnjcoejfkfjaaWAll
import Derived.Test.YtpcnjcoejfkfjaaLawEdges
namespace Go.Proofs.Ytpcnjcoejfkfjaa
open Go.RowKit

theorem DownsEdges_walk (n : Int) (ps : List (Int × Int)) (A : Option Addr) (c s : Nat) (w : World) (hs : s < 4294967296) (hm : ps.length ≤ maxLen) (hr : Row w A (pairsC ps)) :
    Calls Try.prog 6 #[.int .i64 n, .slice A ps.length c, .int .u32 s] w fun e w' => e = .returned (.bool true) ∧ Below w.heap.size w w' :=
  DownsEdges_with Edge_ok n ps A c s w hs hm hr trivial

end Go.Proofs.Ytpcnjcoejfkfjaa
