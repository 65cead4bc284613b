/- The walk of the law RightsSteps. -/
import Derived.Test.YthgmbiaajgpaaaaWRo
import Derived.Test.YthgmbiaajgpaaaaLawR3
namespace Go.Proofs.Ythgmbiaajgpaaaa
open Go.RowKit

theorem RightsSteps_walk (n : Int) (m : Mat) (A : Option Addr) (c : Nat) (l : List Chn) (A2 : Option Addr) (c2 : Nat) (x y : Int) (r : Nat) (w : World) (hr32 : r < 4294967296) (hm : m.length ≤ maxLen) (hcap : m.length ≤ c) (hr : Mats w A m) (hm2 : l.length ≤ maxLen) (hcap2 : l.length ≤ c2) (hc32 : C32 l) (hr2 : Row w A2 (chnsC l)) (hX : Laid w) :
    Calls Try.prog 5 #[.int .i64 n, .slice A m.length c, .slice A2 l.length c2, .int .i64 x, .int .i64 y, .int .u32 (r : Int)] w fun e w' => e = .returned (.bool true) ∧ Below w.heap.size w w' :=
  RightsSteps_with rfl RtSteps_ok n m A c l A2 c2 x y r w hm hcap hr hm2 hcap2 hc32 hr2 hr32 hX

end Go.Proofs.Ythgmbiaajgpaaaa
