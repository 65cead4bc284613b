/- The walk of the law ConceptNexts. -/
import Derived.Test.YtlokldjookngkaaWCo
import Derived.Test.YtlokldjookngkaaLawC3
namespace Go.Proofs.Ytlokldjookngkaa
open Go.RowKit

theorem ConceptNexts_walk (n : Int) (rows : List Nat) (A : Option Addr) (c m : Nat) (w : World) (hm : m < 4294967296) (h32 : U32 rows) (hmx : rows.length ≤ maxLen) (hr : Row w A (words rows)) (hX : Laid w) :
    Calls Try.prog 6 #[.int .i64 n, .slice A rows.length c, .int .u32 m] w fun e w' => e = .returned (.bool true) ∧ Below w.heap.size w w' :=
  ConceptNexts_with CNext_ok n rows A c m w hm h32 hmx hr hX

end Go.Proofs.Ytlokldjookngkaa
