/- The walk of the law RightsClose. -/
import Derived.Test.YthgmbiaajgpaaaaWRo
import Derived.Test.YthgmbiaajgpaaaaLawR5
namespace Go.Proofs.Ythgmbiaajgpaaaa
open Go.RowKit

theorem RightsClose_walk (n : Int) (m : Mat) (A : Option Addr) (c : Nat) (l : List Chn) (A2 : Option Addr) (c2 : Nat) (d : Chn) (w : World) (hd : d.a < 4294967296 ∧ d.b < 4294967296 ∧ d.c < 4294967296) (hm : m.length ≤ maxLen) (hcap : m.length ≤ c) (hr : Mats w A m) (hm2 : l.length ≤ maxLen) (hcap2 : l.length ≤ c2) (hc32 : C32 l) (hr2 : Row w A2 (chnsC l)) (hX : Laid w) :
    Calls Try.prog 6 #[.int .i64 n, .slice A m.length c, .slice A2 l.length c2, .agg #[.int .u32 (d.a : Int), .int .u32 (d.b : Int), .int .u32 (d.c : Int)]] w fun e w' => e = .returned (.bool true) ∧ Below w.heap.size w w' :=
  RightsClose_with rfl RtClose_ok n m A c l A2 c2 d w hm hcap hr hm2 hcap2 hc32 hr2 hd hX

end Go.Proofs.Ythgmbiaajgpaaaa
