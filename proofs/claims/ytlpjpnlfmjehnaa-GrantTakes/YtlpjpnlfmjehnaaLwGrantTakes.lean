/- The walk of the law GrantTakes. -/
import Derived.Test.YtlpjpnlfmjehnaaWGo
import Derived.Test.YtlpjpnlfmjehnaaLawG4
namespace Go.Proofs.Ytlpjpnlfmjehnaa
open Go.RowKit

theorem GrantTakes_walk (n : Int) (es : List Ed) (A : Option Addr) (c : Nat) (ds : List Dd) (A3 : Option Addr) (c3 : Nat) (a y : Int) (bit : Nat) (w : World) (hbit : bit < 256) (hm : es.length ≤ maxLen) (hcap : es.length ≤ c) (h32 : E32 es) (hr : Row w A (edgesC es)) (hsz : ds.length * 48 ≤ 140737488355328) (hm3 : ds.length ≤ maxLen) (hcap3 : ds.length ≤ c3) (hp32 : ∀ d ∈ ds, d.parts < 4294967296) (hr3 : Row w A3 (deedsC ds)) (hX : Laid w) :
    Calls Try.prog 6 #[.int .i64 n, .slice A es.length c, .slice A3 ds.length c3, .int .i64 a, .int .i64 y, .int .u8 (bit : Int)] w fun e w' => e = .returned (.bool true) ∧ Below w.heap.size w w' :=
  GrantTakes_with rfl rfl GPlay_ok GCan_ok n es A c ds A3 c3 a y bit w hbit hm hcap h32 hr hsz hm3 hcap3 hp32 hr3 hX

end Go.Proofs.Ytlpjpnlfmjehnaa
