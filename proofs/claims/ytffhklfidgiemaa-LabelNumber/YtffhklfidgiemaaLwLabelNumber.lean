/- The walk of the law LabelNumber. -/
import Derived.Test.YtffhklfidgiemaaWLo
import Derived.Test.YtffhklfidgiemaaLawL3
namespace Go.Proofs.Ytffhklfidgiemaa
open Go.RowKit

theorem LabelNumber_walk (l1 : Int) (p1 : Nat) (k : Int) (w : World) (h1 : p1 < 4294967296) (hX : Laid w) :
    Calls Try.prog 10 #[.agg #[.int .i64 l1, .int .u32 p1], .int .i64 k] w fun e w' => e = .returned (.bool true) ∧ Below w.heap.size w w' :=
  LabelNumber_with LNumber_ok LLabel_ok l1 p1 k w h1 hX

end Go.Proofs.Ytffhklfidgiemaa
