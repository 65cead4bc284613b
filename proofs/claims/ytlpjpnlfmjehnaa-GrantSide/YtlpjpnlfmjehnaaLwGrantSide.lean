/- The walk of the law GrantSide. -/
import Derived.Test.YtlpjpnlfmjehnaaWGo
import Derived.Test.YtlpjpnlfmjehnaaLawG1
namespace Go.Proofs.Ytlpjpnlfmjehnaa
open Go.RowKit

theorem GrantSide_walk (n : Int) (es : List Ed) (A : Option Addr) (c : Nat) (a y d : Int) (r : Nat) (w : World) (hr32 : r < 4294967296) (hm : es.length ≤ maxLen) (hcap : es.length ≤ c) (h32 : E32 es) (hr : Row w A (edgesC es)) (hX : Laid w) :
    Calls Try.prog 7 #[.int .i64 n, .slice A es.length c, .int .i64 a, .int .i64 y, .int .i64 d, .int .u32 (r : Int)] w fun e w' => e = .returned (.bool true) ∧ Below w.heap.size w w' :=
  GrantSide_with rfl GCan_ok n es A c a y d r w hr32 hm hcap h32 hr hX

end Go.Proofs.Ytlpjpnlfmjehnaa
