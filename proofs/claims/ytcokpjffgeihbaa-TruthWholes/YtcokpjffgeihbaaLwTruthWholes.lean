/- The walk of the law TruthWholes. -/
import Derived.Test.YtcokpjffgeihbaaWTo
import Derived.Test.YtcokpjffgeihbaaLawT3
namespace Go.Proofs.Ytcokpjffgeihbaa
open Go.RowKit

theorem TruthWholes_walk (n : Int) (fs : List (List Bool)) (A : Option Addr) (c : Nat) (w : World) (hm : fs.length ≤ maxLen) (hr : Tabs w A fs) (hX : Laid w) :
    Calls Try.prog 6 #[.int .i64 n, .slice A fs.length c] w fun e w' => e = .returned (.bool true) ∧ Below w.heap.size w w' :=
  TruthWholes_with TWhole_ok n fs A c w hm hr hX

end Go.Proofs.Ytcokpjffgeihbaa
