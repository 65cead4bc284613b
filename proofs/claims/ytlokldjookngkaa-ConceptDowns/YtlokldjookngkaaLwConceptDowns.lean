/- The walk of the law ConceptDowns. -/
import Derived.Test.YtlokldjookngkaaWCo
import Derived.Test.YtlokldjookngkaaLawC1
namespace Go.Proofs.Ytlokldjookngkaa
open Go.RowKit

theorem ConceptDowns_walk (n : Int) (rows : List Nat) (A : Option Addr) (c m : Nat) (w : World) (ho : m < 4294967296) (h32 : U32 rows) (hm : rows.length ≤ maxLen) (hr : Row w A (words rows)) (hX : Laid w) :
    Calls Try.prog 4 #[.int .i64 n, .slice A rows.length c, .int .u32 m] w fun e w' => e = .returned (.bool true) ∧ Below w.heap.size w w' :=
  ConceptDowns_with CDown_ok n rows A c m w ho h32 hm hr hX

end Go.Proofs.Ytlokldjookngkaa
