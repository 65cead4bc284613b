/- The walk of the law ChoiceReads. -/
import Derived.Test.YtnoehmokaeegeaaWHo
import Derived.Test.YtnoehmokaeegeaaLawH1
namespace Go.Proofs.Ytnoehmokaeegeaa
open Go.RowKit

theorem ChoiceReads_walk (n : Int) (l : List Nd) (A : Option Addr) (c : Nat) (root : Int) (w : World) (hm : l.length ≤ maxLen) (hcp : l.length ≤ c) (hr : Row w A (nodesC l)) (hX : Laid w) :
    Calls Try.prog 4 #[.int .i64 n, .slice A l.length c, .int .i64 root] w fun e w' => e = .returned (.bool true) ∧ Below w.heap.size w w' :=
  ChoiceReads_with HRead_ok n l A c root w hm hcp hr hX

end Go.Proofs.Ytnoehmokaeegeaa
