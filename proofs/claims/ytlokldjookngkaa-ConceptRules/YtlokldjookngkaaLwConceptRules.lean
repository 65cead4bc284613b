/- The walk of the law ConceptRules. -/
import Derived.Test.YtlokldjookngkaaWCo
import Derived.Test.YtlokldjookngkaaLawC1
namespace Go.Proofs.Ytlokldjookngkaa
open Go.RowKit

theorem ConceptRules_walk (n : Int) (rows : List Nat) (A : Option Addr) (c a b : Nat) (w : World) (ha : a < 4294967296) (hb : b < 4294967296) (h32 : U32 rows) (hmx : rows.length ≤ maxLen) (hr : Row w A (words rows)) (hX : Laid w) :
    Calls Try.prog 10 #[.int .i64 n, .slice A rows.length c, .agg #[.int .u32 a, .int .u32 b]] w fun e w' => e = .returned (.bool true) ∧ Below w.heap.size w w' :=
  ConceptRules_with CSays_ok CDown_ok CUp_ok n rows A c a b w ha hb h32 hmx hr hX

end Go.Proofs.Ytlokldjookngkaa
