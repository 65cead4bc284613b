/- The walk of the law FixMosts. -/
import Derived.Test.YtihhplkcpdepgaaWXo
import Derived.Test.YtihhplkcpdepgaaLawX1
namespace Go.Proofs.Ytihhplkcpdepgaa
open Go.RowKit

theorem FixMosts_walk (n : Int) (f : List Nat) (A : Option Addr) (c : Nat) (w : World) (h32 : U32 f) (hm : f.length ≤ maxLen) (hr : Row w A (words f)) (hX : Laid w) :
    Calls Try.prog 6 #[.int .i64 n, .slice A f.length c] w fun e w' => e = .returned (.bool true) ∧ Below w.heap.size w w' :=
  FixMosts_with XMost_ok n f A c w h32 hm hr hX

end Go.Proofs.Ytihhplkcpdepgaa
