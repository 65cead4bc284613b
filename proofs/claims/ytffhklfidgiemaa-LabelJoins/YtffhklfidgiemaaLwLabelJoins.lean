/- The walk of the law LabelJoins. -/
import Derived.Test.YtffhklfidgiemaaWLo
import Derived.Test.YtffhklfidgiemaaLawL1
namespace Go.Proofs.Ytffhklfidgiemaa
open Go.RowKit

theorem LabelJoins_walk (l1 : Int) (p1 : Nat) (l2 : Int) (p2 : Nat) (w : World) (h1 : p1 < 4294967296) (h2 : p2 < 4294967296) (hX : Laid w) :
    Calls Try.prog 5 #[.agg #[.int .i64 l1, .int .u32 p1], .agg #[.int .i64 l2, .int .u32 p2]] w fun e w' => e = .returned (.bool true) ∧ Below w.heap.size w w' :=
  LabelJoins_with LJoin_ok l1 p1 l2 p2 w h1 h2 hX

end Go.Proofs.Ytffhklfidgiemaa
