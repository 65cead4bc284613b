/- The walk of the law TruthPost. -/
import Derived.Test.YtcokpjffgeihbaaWTo
import Derived.Test.YtcokpjffgeihbaaLawT5
namespace Go.Proofs.Ytcokpjffgeihbaa
open Go.RowKit

theorem TruthPost_walk (n : Int) (f : List Bool) (A : Option Addr) (c : Nat) (gs : List (List Bool)) (A2 : Option Addr) (c2 : Nat) (w : World) (hm : f.length ≤ maxLen) (hr : Row w A (boolsC f)) (hm2 : gs.length ≤ maxLen) (hr2 : Tabs w A2 gs) (hX : Laid w) :
    Calls Try.prog 10 #[.int .i64 n, .slice A f.length c, .slice A2 gs.length c2] w fun e w' => e = .returned (.bool true) ∧ Below w.heap.size w w' :=
  TruthPost_with TClass_ok n f A c gs A2 c2 w hm hr hm2 hr2 hX

end Go.Proofs.Ytcokpjffgeihbaa
