/- The walk of the law FixTarski. -/
import Derived.Test.YtihhplkcpdepgaaWXo
import Derived.Test.YtihhplkcpdepgaaLawX2
namespace Go.Proofs.Ytihhplkcpdepgaa
open Go.RowKit

theorem FixTarski_walk (n : Int) (f : List Nat) (A : Option Addr) (c s : Nat) (w : World) (hs : s < 4294967296) (h32 : U32 f) (hm : f.length ≤ maxLen) (hr : Row w A (words f)) (hX : Laid w) :
    Calls Try.prog 7 #[.int .i64 n, .slice A f.length c, .int .u32 s] w fun e w' => e = .returned (.bool true) ∧ Below w.heap.size w w' :=
  FixTarski_with XLeast_ok XMost_ok XRises_ok n f A c s w hs h32 hm hr hX

end Go.Proofs.Ytihhplkcpdepgaa
