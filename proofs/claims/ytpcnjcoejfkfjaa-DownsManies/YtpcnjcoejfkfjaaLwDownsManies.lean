/- The walk of the law DownsManies. -/
import Derived.Test.YtpcnjcoejfkfjaaWAll
import Derived.Test.YtpcnjcoejfkfjaaLawManies
namespace Go.Proofs.Ytpcnjcoejfkfjaa
open Go.RowKit

theorem DownsManies_walk (n : Int) (ps : List (Int × Int)) (A : Option Addr) (c : Nat) (w : World) (hm : ps.length ≤ maxLen) (hr : Row w A (pairsC ps)) :
    Calls Try.prog 4 #[.int .i64 n, .slice A ps.length c] w fun e w' => e = .returned (.bool true) ∧ Below w.heap.size w w' :=
  DownsManies_with Many_ok n ps A c w hm hr trivial

end Go.Proofs.Ytpcnjcoejfkfjaa
