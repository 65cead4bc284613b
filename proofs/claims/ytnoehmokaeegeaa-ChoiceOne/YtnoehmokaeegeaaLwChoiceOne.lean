/- The walk of the law ChoiceOne. -/
import Derived.Test.YtnoehmokaeegeaaWHo
import Derived.Test.YtnoehmokaeegeaaLawH1
namespace Go.Proofs.Ytnoehmokaeegeaa
open Go.RowKit

theorem ChoiceOne_walk (n : Int) (f : List Bool) (A : Option Addr) (c : Nat) (g : List Bool) (B : Option Addr) (d : Nat) (w : World) (hm : f.length ≤ maxLen) (hr : Row w A (boolsC f)) (hm2 : g.length ≤ maxLen) (hr2 : Row w B (boolsC g)) (hX : Laid w) :
    Calls Try.prog 6 #[.int .i64 n, .slice A f.length c, .slice B g.length d] w fun e w' => e = .returned (.bool true) ∧ Below w.heap.size w w' :=
  ChoiceOne_with HBuild_ok HRead_ok n f A c g B d w hm hr hm2 hr2 hX

end Go.Proofs.Ytnoehmokaeegeaa
