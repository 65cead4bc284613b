/- The walk of the law ConceptGalois. -/
import Derived.Test.YtlokldjookngkaaWCo
import Derived.Test.YtlokldjookngkaaLawC1
namespace Go.Proofs.Ytlokldjookngkaa
open Go.RowKit

theorem ConceptGalois_walk (n : Int) (rows : List Nat) (A : Option Addr) (c o m : Nat) (w : World) (ho : o < 4294967296) (hm : m < 4294967296) (h32 : U32 rows) (hmx : rows.length ≤ maxLen) (hr : Row w A (words rows)) (hX : Laid w) :
    Calls Try.prog 8 #[.int .i64 n, .slice A rows.length c, .int .u32 o, .int .u32 m] w fun e w' => e = .returned (.bool true) ∧ Below w.heap.size w w' :=
  ConceptGalois_with CUp_ok CDown_ok n rows A c o m w ho hm h32 hmx hr hX

end Go.Proofs.Ytlokldjookngkaa
