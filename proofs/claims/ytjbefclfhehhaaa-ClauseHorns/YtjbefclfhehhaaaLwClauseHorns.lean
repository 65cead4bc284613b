/- The walk of the law ClauseHorns. -/
import Derived.Test.YtjbefclfhehhaaaWIo
import Derived.Test.YtjbefclfhehhaaaLawI2
namespace Go.Proofs.Ytjbefclfhehhaaa
open Go.RowKit

theorem ClauseHorns_walk (n : Int) (rs : List Cla) (A : Option Addr) (c : Nat) (w : World) (h32 : W32 rs) (hm : rs.length ≤ maxLen) (hr : Row w A (rulesC rs)) (hX : Laid w) :
    Calls Try.prog 4 #[.int .i64 n, .slice A rs.length c] w fun e w' => e = .returned (.bool true) ∧ Below w.heap.size w w' :=
  ClauseHorns_with IHorn_ok n rs A c w h32 hm hr hX

end Go.Proofs.Ytjbefclfhehhaaa
