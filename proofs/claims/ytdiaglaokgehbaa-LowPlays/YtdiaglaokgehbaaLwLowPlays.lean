/- The walk of the law LowPlays. -/
import Derived.Test.YtdiaglaokgehbaaWNo
import Derived.Test.YtdiaglaokgehbaaLawN1
namespace Go.Proofs.Ytdiaglaokgehbaa
open Go.RowKit

theorem LowPlays_walk (cs : List Lab) (A : Option Addr) (c : Nat) (ts : List Lab) (A2 : Option Addr) (c2 : Nat) (ds : List Dd) (A3 : Option Addr) (c3 : Nat) (w : World) (hm : cs.length ≤ maxLen) (hcap : cs.length ≤ c) (h32 : L32 cs) (hr : Row w A (labsC cs)) (hm2 : ts.length ≤ maxLen) (hcap2 : ts.length ≤ c2) (h322 : L32 ts) (hr2 : Row w A2 (labsC ts)) (hm3 : ds.length ≤ maxLen) (hcap3 : ds.length ≤ c3) (hr3 : Row w A3 (deedsC ds)) (hX : Laid w) :
    Calls Try.prog 6 #[.slice A cs.length c, .slice A2 ts.length c2, .slice A3 ds.length c3] w fun e w' => e = .returned (.bool true) ∧ Below w.heap.size w w' :=
  LowPlays_with NPlay_ok cs A c ts A2 c2 ds A3 c3 w hm hcap h32 hr hm2 hcap2 h322 hr2 hm3 hcap3 hr3 hX

end Go.Proofs.Ytdiaglaokgehbaa
