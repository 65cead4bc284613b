/- The walk of the law WallPlays. -/
import Derived.Test.YtdiaglaokgehbaaWQo
import Derived.Test.YtdiaglaokgehbaaWW3
import Derived.Test.YtdiaglaokgehbaaLawW3
namespace Go.Proofs.Ytdiaglaokgehbaa
open Go.RowKit

theorem WallPlays_walk (who : Int) (fi : List Int) (A : Option Addr) (c : Nat) (cl : List Int) (A2 : Option Addr) (c2 : Nat) (ds : List Dd) (A3 : Option Addr) (c3 : Nat) (w : World)
    (hm : fi.length ≤ maxLen) (hcap : fi.length ≤ c) (hr : Row w A (ints fi)) (hm2 : cl.length ≤ maxLen) (hcap2 : cl.length ≤ c2) (hr2 : Row w A2 (ints cl)) (hm3 : ds.length ≤ maxLen) (hcap3 : ds.length ≤ c3) (hr3 : Row w A3 (deedsC ds)) (hX : Laid w) :
    Calls Try.prog 9 #[.int .i64 who, .slice A fi.length c, .slice A2 cl.length c2, .slice A3 ds.length c3] w fun e w' => e = .returned (.bool true) ∧ Below w.heap.size w w' :=
  WallPlays_with WPlay_ok (fun nc fi cl ds A A2 A3 c c2 c3 w g1 g2 g3 hcf h1 h2 h3 => Wall_any nc fi cl ds A A2 A3 c c2 c3 w g1 g2 g3 hcf h1 h2 h3) who fi A c cl A2 c2 ds A3 c3 w hm hcap hr hm2 hcap2 hr2 hm3 hcap3 hr3 hX

end Go.Proofs.Ytdiaglaokgehbaa
