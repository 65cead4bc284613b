/- The walk of the law FixAll. -/
import Derived.Test.YtihhplkcpdepgaaWXo
import Derived.Test.YtihhplkcpdepgaaLawX3
namespace Go.Proofs.Ytihhplkcpdepgaa
open Go.RowKit

theorem FixAll_walk (n : Int) (f : List Nat) (A : Option Addr) (c i j : Nat) (w : World) (hi : i < 256) (hj : j < 256) (h32 : U32 f) (hm : f.length ≤ maxLen) (hr : Row w A (words f)) (hX : Laid w) :
    Calls Try.prog 8 #[.int .i64 n, .slice A f.length c, .int .u8 i, .int .u8 j] w fun e w' => e = .returned (.bool true) ∧ Below w.heap.size w w' :=
  FixAll_with XAll_ok n f A c i j w hi hj h32 hm hr hX

end Go.Proofs.Ytihhplkcpdepgaa
