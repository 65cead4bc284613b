/- The walk of the law ClauseHorn. -/
import Derived.Test.YtjbefclfhehhaaaWIo
import Derived.Test.YtjbefclfhehhaaaLawI4
namespace Go.Proofs.Ytjbefclfhehhaaa
open Go.RowKit

theorem ClauseHorn_walk (n : Int) (rs : List Cla) (A : Option Addr) (c a b : Nat) (w : World) (ha : a < 4294967296) (hb : b < 4294967296) (h32 : W32 rs) (hm : rs.length ≤ maxLen) (hr : Row w A (rulesC rs)) (hX : Laid w) :
    Calls Try.prog 8 #[.int .i64 n, .slice A rs.length c, .int .u32 a, .int .u32 b] w fun e w' => e = .returned (.bool true) ∧ Below w.heap.size w w' :=
  ClauseHorn_with IHorn_ok ISolve_ok n rs A c a b w ha hb h32 hm hr hX

end Go.Proofs.Ytjbefclfhehhaaa
