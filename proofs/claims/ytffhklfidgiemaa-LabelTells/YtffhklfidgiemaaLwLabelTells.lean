/- The walk of the law LabelTells. -/
import Derived.Test.YtffhklfidgiemaaWLo
import Derived.Test.YtffhklfidgiemaaLawL2
namespace Go.Proofs.Ytffhklfidgiemaa
open Go.RowKit

theorem LabelTells_walk (k : Int) (w : World) (hX : Laid w) :
    Calls Try.prog 8 #[.int .i64 k] w fun e w' => e = .returned (.bool true) ∧ Below w.heap.size w w' :=
  LabelTells_with LLabel_ok k w hX

end Go.Proofs.Ytffhklfidgiemaa
