/- The walk of the law LabelLaws. -/
import Derived.Test.YtffhklfidgiemaaWLo
import Derived.Test.YtffhklfidgiemaaLawL5
namespace Go.Proofs.Ytffhklfidgiemaa
open Go.RowKit

theorem LabelLaws_walk (l1 : Int) (p1 : Nat) (l2 : Int) (p2 : Nat) (l3 : Int) (p3 : Nat) (w : World) (h1 : p1 < 4294967296) (h2 : p2 < 4294967296) (h3 : p3 < 4294967296) (hX : Laid w) :
    Calls Try.prog 9 #[.agg #[.int .i64 l1, .int .u32 p1], .agg #[.int .i64 l2, .int .u32 p2], .agg #[.int .i64 l3, .int .u32 p3]] w fun e w' => e = .returned (.bool true) ∧ Below w.heap.size w w' :=
  LabelLaws_with LJoin_ok LMeet_ok LUnder_ok l1 p1 l2 p2 l3 p3 w h1 h2 h3 hX

end Go.Proofs.Ytffhklfidgiemaa
