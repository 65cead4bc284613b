/- The walk of the law ChoiceAnds. -/
import Derived.Test.YtnoehmokaeegeaaWHo
import Derived.Test.YtnoehmokaeegeaaLawH2
namespace Go.Proofs.Ytnoehmokaeegeaa
open Go.RowKit

theorem ChoiceAnds_walk (n : Int) (a : List Nd) (A : Option Addr) (c : Nat) (x : Int) (b : List Nd) (B : Option Addr) (d : Nat) (y : Int) (w : World) (hm : a.length ≤ maxLen) (hcp : a.length ≤ c) (hr : Row w A (nodesC a)) (hm2 : b.length ≤ maxLen) (hcp2 : b.length ≤ d) (hr2 : Row w B (nodesC b)) (hX : Laid w) :
    Calls Try.prog 5 #[.int .i64 n, .slice A a.length c, .int .i64 x, .slice B b.length d, .int .i64 y] w fun e w' => e = .returned (.bool true) ∧ Below w.heap.size w w' :=
  ChoiceAnds_with HAnd_ok n a A c x b B d y w hm hcp hr hm2 hcp2 hr2 hX

end Go.Proofs.Ytnoehmokaeegeaa
