/- The walk of the law DownsAlls. -/
import Derived.Test.YtpcnjcoejfkfjaaWAll
import Derived.Test.YtpcnjcoejfkfjaaLawAlls
namespace Go.Proofs.Ytpcnjcoejfkfjaa
open Go.RowKit

theorem DownsAlls_walk (n : Int) (ps : List (Int × Int)) (A : Option Addr) (c : Nat) (w : World) (hm : ps.length ≤ maxLen) (hr : Row w A (pairsC ps)) :
    Calls Try.prog 3 #[.int .i64 n, .slice A ps.length c] w fun e w' => e = .returned (.bool true) ∧ Below w.heap.size w w' :=
  DownsAlls_with All_ok n ps A c w hm hr trivial

end Go.Proofs.Ytpcnjcoejfkfjaa
