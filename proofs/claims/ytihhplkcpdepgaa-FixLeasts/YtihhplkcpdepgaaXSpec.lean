/- What the functions of package fix are to answer. -/
import Derived.Test.YtihhplkcpdepgaaWF1
import Derived.Test.YtihhplkcpdepgaaExt
namespace Go.Proofs.Ytihhplkcpdepgaa
open Go.RowKit

/-- The contract of Rises. -/
def XRisesOk (fn : Nat) : Prop :=
  ∀ (n : Int) (f : List Nat) (A : Option Addr) (c : Nat) (w : World), U32 f → f.length ≤ maxLen → Row w A (words f) → Laid w →
    Calls Try.prog fn #[.int .i64 n, .slice A f.length c] w fun e w' => e = .returned (.tuple #[.bool (codeM n f == 0 && riseB f), .int .i64 (codeM n f)]) ∧ Below w.heap.size w w'
/-- The contract of All. -/
def XAllOk (fn : Nat) : Prop :=
  ∀ (n : Int) (f : List Nat) (A : Option Addr) (c : Nat) (w : World), U32 f → f.length ≤ maxLen → Row w A (words f) → Laid w →
    Calls Try.prog fn #[.int .i64 n, .slice A f.length c] w fun e w' => ∃ (A2 : Option Addr) (c2 : Nat) (l : List Nat), e = .returned (.tuple #[.slice A2 l.length c2, .int .i64 (codeM n f)]) ∧ l = (if codeM n f = 0 then fixL f f.length else []) ∧ Row w' A2 (words l) ∧ Below w.heap.size w w'
/-- The contract of Least. -/
def XLeastOk (fn : Nat) : Prop :=
  ∀ (n : Int) (f : List Nat) (A : Option Addr) (c : Nat) (w : World), U32 f → f.length ≤ maxLen → Row w A (words f) → Laid w →
    Calls Try.prog fn #[.int .i64 n, .slice A f.length c] w fun e w' => ∃ s : Nat, e = .returned (.tuple #[.int .u32 s, .int .i64 (codeN n f)]) ∧ (codeN n f = 0 → IsLeast n.toNat f s) ∧ (codeN n f ≠ 0 → s = 0) ∧ Below w.heap.size w w'
/-- The contract of Most. -/
def XMostOk (fn : Nat) : Prop :=
  ∀ (n : Int) (f : List Nat) (A : Option Addr) (c : Nat) (w : World), U32 f → f.length ≤ maxLen → Row w A (words f) → Laid w →
    Calls Try.prog fn #[.int .i64 n, .slice A f.length c] w fun e w' => ∃ s : Nat, e = .returned (.tuple #[.int .u32 s, .int .i64 (codeN n f)]) ∧ (codeN n f = 0 → IsMost n.toNat f s) ∧ (codeN n f ≠ 0 → s = 0) ∧ Below w.heap.size w w'

end Go.Proofs.Ytihhplkcpdepgaa
