/- The walk of the law ConceptNext. -/
import Derived.Test.YtlokldjookngkaaWCo
import Derived.Test.YtlokldjookngkaaLawC4
namespace Go.Proofs.Ytlokldjookngkaa
open Go.RowKit

theorem ConceptNext_walk (n : Int) (rows : List Nat) (A : Option Addr) (c : Nat) (w : World) (h32 : U32 rows) (hm : rows.length ≤ maxLen) (hr : Row w A (words rows)) (hX : Laid w) :
    Calls Try.prog 9 #[.int .i64 n, .slice A rows.length c] w fun e w' => e = .returned (.bool true) ∧ Below w.heap.size w w' :=
  ConceptNext_with CAll_ok CNext_ok n rows A c w h32 hm hr hX

end Go.Proofs.Ytlokldjookngkaa
