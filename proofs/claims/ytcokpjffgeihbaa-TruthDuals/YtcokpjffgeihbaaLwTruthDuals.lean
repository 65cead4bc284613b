/- The walk of the law TruthDuals. -/
import Derived.Test.YtcokpjffgeihbaaWTo
import Derived.Test.YtcokpjffgeihbaaLawT1
namespace Go.Proofs.Ytcokpjffgeihbaa
open Go.RowKit

theorem TruthDuals_walk (n : Int) (f : List Bool) (A : Option Addr) (c : Nat) (w : World) (hm : f.length ≤ maxLen) (hr : Row w A (boolsC f)) (hX : Laid w) :
    Calls Try.prog 3 #[.int .i64 n, .slice A f.length c] w fun e w' => e = .returned (.bool true) ∧ Below w.heap.size w w' :=
  TruthDuals_with TDual_ok n f A c w hm hr hX

end Go.Proofs.Ytcokpjffgeihbaa
