/- The walk of the law ChoiceBuilds. -/
import Derived.Test.YtnoehmokaeegeaaWHo
import Derived.Test.YtnoehmokaeegeaaLawH1
namespace Go.Proofs.Ytnoehmokaeegeaa
open Go.RowKit

theorem ChoiceBuilds_walk (n : Int) (f : List Bool) (A : Option Addr) (c : Nat) (w : World) (hm : f.length ≤ maxLen) (hr : Row w A (boolsC f)) (hX : Laid w) :
    Calls Try.prog 3 #[.int .i64 n, .slice A f.length c] w fun e w' => e = .returned (.bool true) ∧ Below w.heap.size w w' :=
  ChoiceBuilds_with HBuild_ok n f A c w hm hr hX

end Go.Proofs.Ytnoehmokaeegeaa
