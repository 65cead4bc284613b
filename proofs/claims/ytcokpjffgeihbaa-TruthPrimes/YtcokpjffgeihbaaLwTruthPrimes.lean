/- The walk of the law TruthPrimes. -/
import Derived.Test.YtcokpjffgeihbaaWToP
import Derived.Test.YtcokpjffgeihbaaLawT1
namespace Go.Proofs.Ytcokpjffgeihbaa
open Go.RowKit

theorem TruthPrimes_walk (n : Int) (f : List Bool) (A : Option Addr) (c : Nat) (w : World) (hm : f.length ≤ maxLen) (hr : Row w A (boolsC f)) (hX : Laid w) :
    Calls Try.prog 7 #[.int .i64 n, .slice A f.length c] w fun e w' => e = .returned (.bool true) ∧ Below w.heap.size w w' :=
  TruthPrimes_with TPrimes_ok n f A c w hm hr hX

end Go.Proofs.Ytcokpjffgeihbaa
