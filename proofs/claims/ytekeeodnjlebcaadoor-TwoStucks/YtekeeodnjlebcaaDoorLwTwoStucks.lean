/- The walk of the law TwoStucks. -/
import Derived.Test.YtekeeodnjlebcaaDoorWJo
import Derived.Test.YtekeeodnjlebcaaDoorLawJ1
namespace Go.Proofs.YtekeeodnjlebcaaDoor
open Go.RowKit

theorem TwoStucks_walk (n : Int) (rs : List Cla) (A : Option Addr) (c : Nat) (w : World) (h32 : W32 rs) (hm : rs.length ≤ maxLen) (hr : Row w A (rulesC rs)) (hX : Laid w) :
    Calls Tryd.prog 4 #[.int .i64 n, .slice A rs.length c] w fun e w' => e = .returned (.bool true) ∧ Below w.heap.size w w' :=
  TwoStucks_with JStuck_ok n rs A c w h32 hm hr hX

end Go.Proofs.YtekeeodnjlebcaaDoor
