/- The walk of the law TwoSolves. -/
import Derived.Test.YtekeeodnjlebcaaWJo
import Derived.Test.YtekeeodnjlebcaaLawJ1
namespace Go.Proofs.Ytekeeodnjlebcaa
open Go.RowKit

theorem TwoSolves_walk (n : Int) (rs : List Cla) (A : Option Addr) (c : Nat) (w : World) (h32 : W32 rs) (hm : rs.length ≤ maxLen) (hr : Row w A (rulesC rs)) (hX : Laid w) :
    Calls Try.prog 3 #[.int .i64 n, .slice A rs.length c] w fun e w' => e = .returned (.bool true) ∧ Below w.heap.size w w' :=
  TwoSolves_with JSolve_ok n rs A c w h32 hm hr hX

end Go.Proofs.Ytekeeodnjlebcaa
