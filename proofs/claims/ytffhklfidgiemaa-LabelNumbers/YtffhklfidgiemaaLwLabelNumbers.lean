/- The walk of the law LabelNumbers. -/
import Derived.Test.YtffhklfidgiemaaWLo
import Derived.Test.YtffhklfidgiemaaLawL1
namespace Go.Proofs.Ytffhklfidgiemaa
open Go.RowKit

theorem LabelNumbers_walk (l1 : Int) (p1 : Nat) (w : World) (h1 : p1 < 4294967296) (hX : Laid w) :
    Calls Try.prog 7 #[.agg #[.int .i64 l1, .int .u32 p1]] w fun e w' => e = .returned (.bool true) ∧ Below w.heap.size w w' :=
  LabelNumbers_with LNumber_ok l1 p1 w h1 hX

end Go.Proofs.Ytffhklfidgiemaa
