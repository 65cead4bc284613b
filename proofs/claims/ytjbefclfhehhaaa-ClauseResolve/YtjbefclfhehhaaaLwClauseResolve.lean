/- The walk of the law ClauseResolve. -/
import Derived.Test.YtjbefclfhehhaaaWIo
import Derived.Test.YtjbefclfhehhaaaLawI5
namespace Go.Proofs.Ytjbefclfhehhaaa
open Go.RowKit

theorem ClauseResolve_walk (n : Int) (rs : List Cla) (A : Option Addr) (c i j : Nat) (w : World) (hi : i < 256) (hj : j < 256) (h32 : W32 rs) (hm : rs.length ≤ maxLen) (hr : Row w A (rulesC rs)) (hX : Laid w) :
    Calls Try.prog 7 #[.int .i64 n, .slice A rs.length c, .int .u8 i, .int .u8 j] w fun e w' => e = .returned (.bool true) ∧ Below w.heap.size w w' :=
  ClauseResolve_with ISolve_ok n rs A c i j w hi hj h32 hm hr hX

end Go.Proofs.Ytjbefclfhehhaaa
