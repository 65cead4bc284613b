/- The walk of the law WallFew. -/
import Derived.Test.YtdiaglaokgehbaaWQo
import Derived.Test.YtdiaglaokgehbaaLawW4
namespace Go.Proofs.Ytdiaglaokgehbaa
open Go.RowKit

theorem WallFew_walk (fi : List Int) (A : Option Addr) (c : Nat) (cl : List Int) (A2 : Option Addr) (c2 : Nat) (w : World) (hm : fi.length ≤ maxLen) (hcap : fi.length ≤ c) (hr : Row w A (ints fi)) (hm2 : cl.length ≤ maxLen) (hcap2 : cl.length ≤ c2) (h64 : ∀ x ∈ cl, (Lit.int .i64 x).wf = true) (hr2 : Row w A2 (ints cl)) (hX : Laid w) :
    Calls Try.prog 12 #[.slice A fi.length c, .slice A2 cl.length c2] w fun e w' => e = .returned (.bool true) ∧ Below w.heap.size w w' :=
  WallFew_with WFewest_ok WPlay_ok fi A c cl A2 c2 w hm hcap hr hm2 hcap2 h64 hr2 hX

end Go.Proofs.Ytdiaglaokgehbaa
