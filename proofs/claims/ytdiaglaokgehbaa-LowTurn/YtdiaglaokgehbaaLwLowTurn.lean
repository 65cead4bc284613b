/- The walk of the law LowTurn. -/
import Derived.Test.YtdiaglaokgehbaaWMo
import Derived.Test.YtdiaglaokgehbaaWNo
import Derived.Test.YtdiaglaokgehbaaLawN3
namespace Go.Proofs.Ytdiaglaokgehbaa
open Go.RowKit

theorem LowTurn_walk (cs : List Lab) (A : Option Addr) (c : Nat) (ts : List Lab) (A2 : Option Addr) (c2 : Nat) (ds : List Dd) (A3 : Option Addr) (c3 : Nat) (w : World) (hsz : cs.length * 16 ≤ 140737488355328) (_ : cs.length ≤ maxLen) (_ : cs.length ≤ c) (_ : L32 cs) (_ : Row w A (labsC cs)) (hm2 : ts.length ≤ maxLen) (hcap2 : ts.length ≤ c2) (h322 : L32 ts) (hr2 : Row w A2 (labsC ts)) (hm3 : ds.length ≤ maxLen) (hcap3 : ds.length ≤ c3) (hr3 : Row w A3 (deedsC ds)) (hX : Laid w) :
    Calls Try.prog 7 #[.slice A cs.length c, .slice A2 ts.length c2, .slice A3 ds.length c3] w fun e w' => e = .returned (.bool true) ∧ Below w.heap.size w w' :=
  LowTurn_with NPlay_ok MPlay_ok cs A c ts A2 c2 ds A3 c3 w hsz hm2 hcap2 h322 hr2 hm3 hcap3 hr3 hX

end Go.Proofs.Ytdiaglaokgehbaa
