/- The walk of the law GrantPlays. -/
import Derived.Test.YtlpjpnlfmjehnaaWGo
import Derived.Test.YtlpjpnlfmjehnaaLawG2
namespace Go.Proofs.Ytlpjpnlfmjehnaa
open Go.RowKit

theorem GrantPlays_walk (n : Int) (es : List Ed) (A : Option Addr) (c : Nat) (ds : List Dd) (A3 : Option Addr) (c3 : Nat) (w : World) (hm : es.length ≤ maxLen) (hcap : es.length ≤ c) (h32 : E32 es) (hr : Row w A (edgesC es)) (hm3 : ds.length ≤ maxLen) (hcap3 : ds.length ≤ c3) (hp32 : ∀ d ∈ ds, d.parts < 4294967296) (hr3 : Row w A3 (deedsC ds)) (hX : Laid w) :
    Calls Try.prog 3 #[.int .i64 n, .slice A es.length c, .slice A3 ds.length c3] w fun e w' => e = .returned (.bool true) ∧ Below w.heap.size w w' :=
  GrantPlays_with rfl GPlay_ok n es A c ds A3 c3 w hm hcap h32 hr hm3 hcap3 hp32 hr3 hX

end Go.Proofs.Ytlpjpnlfmjehnaa
