/- The walk of the law RightsCloses. -/
import Derived.Test.YthgmbiaajgpaaaaWRo
import Derived.Test.YthgmbiaajgpaaaaLawR1
namespace Go.Proofs.Ythgmbiaajgpaaaa
open Go.RowKit

theorem RightsCloses_walk (n : Int) (m : Mat) (A : Option Addr) (c : Nat) (l : List Chn) (A2 : Option Addr) (c2 : Nat) (w : World) (hm : m.length ≤ maxLen) (hcap : m.length ≤ c) (hr : Mats w A m) (hm2 : l.length ≤ maxLen) (hcap2 : l.length ≤ c2) (hc32 : C32 l) (hr2 : Row w A2 (chnsC l)) (hX : Laid w) :
    Calls Try.prog 3 #[.int .i64 n, .slice A m.length c, .slice A2 l.length c2] w fun e w' => e = .returned (.bool true) ∧ Below w.heap.size w w' :=
  RightsCloses_with rfl RtClose_ok n m A c l A2 c2 w hm hcap hr hm2 hcap2 hc32 hr2 hX

end Go.Proofs.Ythgmbiaajgpaaaa
