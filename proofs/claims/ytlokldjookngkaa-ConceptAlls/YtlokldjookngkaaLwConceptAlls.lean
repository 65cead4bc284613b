/- The walk of the law ConceptAlls. -/
import Derived.Test.YtlokldjookngkaaWCo
import Derived.Test.YtlokldjookngkaaLawC2
namespace Go.Proofs.Ytlokldjookngkaa
open Go.RowKit

theorem ConceptAlls_walk (n : Int) (rows : List Nat) (A : Option Addr) (c : Nat) (w : World) (h32 : U32 rows) (hm : rows.length ≤ maxLen) (hr : Row w A (words rows)) (hX : Laid w) :
    Calls Try.prog 5 #[.int .i64 n, .slice A rows.length c] w fun e w' => e = .returned (.bool true) ∧ Below w.heap.size w w' :=
  ConceptAlls_with CAll_ok n rows A c w h32 hm hr hX

end Go.Proofs.Ytlokldjookngkaa
