/- The walk of the law ConceptUps. -/
import Derived.Test.YtlokldjookngkaaWCo
import Derived.Test.YtlokldjookngkaaLawC1
namespace Go.Proofs.Ytlokldjookngkaa
open Go.RowKit

theorem ConceptUps_walk (n : Int) (rows : List Nat) (A : Option Addr) (c o : Nat) (w : World) (ho : o < 4294967296) (h32 : U32 rows) (hm : rows.length ≤ maxLen) (hr : Row w A (words rows)) (hX : Laid w) :
    Calls Try.prog 3 #[.int .i64 n, .slice A rows.length c, .int .u32 o] w fun e w' => e = .returned (.bool true) ∧ Below w.heap.size w w' :=
  ConceptUps_with CUp_ok n rows A c o w ho h32 hm hr hX

end Go.Proofs.Ytlokldjookngkaa
