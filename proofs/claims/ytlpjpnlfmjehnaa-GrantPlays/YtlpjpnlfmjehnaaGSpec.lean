/- What grant.Play, Can and Way are to answer. -/
import Derived.Test.YtlpjpnlfmjehnaaGr2
import Derived.Test.YtlpjpnlfmjehnaaExt
namespace Go.Proofs.Ytlpjpnlfmjehnaa
open Go.RowKit

def GRes (n : Int) (es : List Ed) (ds : List Dd) (codes : List Int) (N : Int) (ge : List Ed) : Prop :=
  if codeGP n es ds.length = 0 then codes = (runG n.toNat es ds).1 ∧ N = (runG n.toNat es ds).2.n ∧ ge = edgesG (runG n.toNat es ds).2 else codes = [] ∧ N = 0 ∧ ge = []
/-- The contract of Play. -/
def GPlayOk (fn : Nat) : Prop :=
  ∀ (n : Int) (es : List Ed) (A : Option Addr) (c : Nat) (ds : List Dd) (A3 : Option Addr) (c3 : Nat) (w : World),
    es.length ≤ maxLen → es.length ≤ c → E32 es → Row w A (edgesC es) → ds.length ≤ maxLen → ds.length ≤ c3 → (∀ d ∈ ds, d.parts < 4294967296) → Row w A3 (deedsC ds) → Laid w →
    Calls Try.prog fn #[.int .i64 n, .slice A es.length c, .slice A3 ds.length c3] w fun e w' => ∃ (B1 : Option Addr) (k1 : Nat) (codes : List Int) (N : Int) (B2 : Option Addr) (k2 : Nat) (ge : List Ed),
      e = .returned (.tuple #[.agg #[.slice B1 codes.length k1, .int .i64 N, .slice B2 ge.length k2], .int .i64 (codeGP n es ds.length)]) ∧ GRes n es ds codes N ge ∧
      Row w' B1 (ints codes) ∧ Row w' B2 (edgesC ge) ∧ Below w.heap.size w w'
/-- The contract of Can. -/
def GCanOk (fn : Nat) : Prop :=
  ∀ (n : Int) (es : List Ed) (A : Option Addr) (c : Nat) (x y : Int) (r : Nat) (w : World),
    es.length ≤ maxLen → es.length ≤ c → E32 es → Row w A (edgesC es) → r < 4294967296 → Laid w →
    Calls Try.prog fn #[.int .i64 n, .slice A es.length c, .int .i64 x, .int .i64 y, .int .u32 (r : Int)] w fun e w' => ∃ b : Bool,
      e = .returned (.tuple #[.bool b, .int .i64 (codeGC n es x y r)]) ∧ (b = true ↔ codeGC n es x y r = 0 ∧ CanE es x y r) ∧ Below w.heap.size w w'
/-- What Way answers. -/
def WayR (n : Int) (es : List Ed) (x y : Int) (r : Nat) (l : List Dd) (q : Int) : Prop :=
  (codeGC n es x y r ≠ 0 → q = codeGC n es x y r ∧ l = []) ∧ (codeGC n es x y r = 0 → ¬ CanE es x y r → q = 5 ∧ l = []) ∧
  (codeGC n es x y r = 0 → CanE es x y r → q = 0 ∧ (∀ d ∈ l, d.kind ≠ 4 ∧ d.parts < 4294967296) ∧ l.length ≤ 1000000 ∧ (sub r (overL es x y) = true → l = []) ∧
    sub r ((runG n.toNat es l).2.ov x.toNat y.toNat) = true)
/-- The contract of Way. -/
def GWayOk (fn : Nat) : Prop :=
  ∀ (n : Int) (es : List Ed) (A : Option Addr) (c : Nat) (x y : Int) (r : Nat) (w : World),
    es.length ≤ maxLen → es.length ≤ c → E32 es → Row w A (edgesC es) → r < 4294967296 → Laid w →
    Calls Try.prog fn #[.int .i64 n, .slice A es.length c, .int .i64 x, .int .i64 y, .int .u32 (r : Int)] w fun e w' => ∃ (B : Option Addr) (k : Nat) (l : List Dd) (q : Int),
      e = .returned (.tuple #[.slice B l.length k, .int .i64 q]) ∧ WayR n es x y r l q ∧ Row w' B (deedsC l) ∧ Below w.heap.size w w'

end Go.Proofs.Ytlpjpnlfmjehnaa
