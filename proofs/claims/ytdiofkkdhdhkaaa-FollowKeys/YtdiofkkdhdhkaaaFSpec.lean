/- What the functions of package follow are to answer. -/
import Derived.Test.YtdiofkkdhdhkaaaWR1
import Derived.Test.YtdiofkkdhdhkaaaExt
import Derived.Test.YtdiofkkdhdhkaaaPop
namespace Go.Proofs.Ytdiofkkdhdhkaaa
open Go.RowKit

/-- The contract of Close. -/
def CloseOk (fn : Nat) : Prop :=
  ∀ (n : Int) (rs : List (Nat × Nat)) (A : Option Addr) (c s : Nat) (w : World), s < 4294967296 → W32 rs → rs.length ≤ maxLen → Row w A (rulesC rs) → Laid w →
    Calls Try.prog fn #[.int .i64 n, .slice A rs.length c, .int .u32 s] w fun e w' => e = .returned (.tuple #[.int .u32 (if codeR n rs s = 0 then closeW n.toNat rs s else 0 : Nat), .int .i64 (codeR n rs s)]) ∧ Below w.heap.size w w'
/-- The contract of Does. -/
def DoesOk (fn : Nat) : Prop :=
  ∀ (n : Int) (rs : List (Nat × Nat)) (A : Option Addr) (c a b : Nat) (w : World), a < 4294967296 → b < 4294967296 → W32 rs → rs.length ≤ maxLen → Row w A (rulesC rs) → Laid w →
    Calls Try.prog fn #[.int .i64 n, .slice A rs.length c, .agg #[.int .u32 a, .int .u32 b]] w fun e w' => e = .returned (.tuple #[.bool (codeR n rs (a ||| b) == 0 && sub b (closeW n.toNat rs a)), .int .i64 (codeR n rs (a ||| b))]) ∧ Below w.heap.size w w'
/-- The contract of Closed. -/
def ClosedOk (fn : Nat) : Prop :=
  ∀ (n : Int) (rs : List (Nat × Nat)) (A : Option Addr) (c : Nat) (w : World), W32 rs → rs.length ≤ maxLen → Row w A (rulesC rs) → Laid w →
    Calls Try.prog fn #[.int .i64 n, .slice A rs.length c] w fun e w' => ∃ (A2 : Option Addr) (c2 : Nat) (l : List Nat), e = .returned (.tuple #[.slice A2 l.length c2, .int .i64 (codeR n rs 0)]) ∧ l = (if codeR n rs 0 = 0 then (List.range (one n.toNat)).filter (closedB rs) else []) ∧ Row w' A2 (words l) ∧ Below w.heap.size w w'
/-- The contract of Keys. -/
def KeysOk (fn : Nat) : Prop :=
  ∀ (n : Int) (rs : List (Nat × Nat)) (A : Option Addr) (c : Nat) (w : World), W32 rs → rs.length ≤ maxLen → Row w A (rulesC rs) → Laid w →
    Calls Try.prog fn #[.int .i64 n, .slice A rs.length c] w fun e w' => ∃ (A2 : Option Addr) (c2 : Nat) (l : List Nat), e = .returned (.tuple #[.slice A2 l.length c2, .int .i64 (codeR n rs 0)]) ∧ l = (if codeR n rs 0 = 0 then (List.range (one n.toNat)).filter (keyB n.toNat rs) else []) ∧ l.length ≤ c2 ∧ Row w' A2 (words l) ∧ Below w.heap.size w w'
/-- What is asked of a least list. -/
structure LeastL (n : Nat) (rs l : List (Nat × Nat)) : Prop where
  same : ∀ s, s < one n → closedB rs s = closedB l s
  one : ∀ r ∈ l, pop r.2 = 1 ∧ r.1 &&& r.2 = 0 ∧ r.1 < one n ∧ r.2 < one n
  need : ∀ k r, l[k]? = some r → sub r.2 (closeW n (l.take k ++ l.drop (k + 1)) r.1) = false
  tight : ∀ r ∈ l, ∀ i, i < n → r.1.testBit i = true → sub r.2 (closeW n l (r.1 - Go.Proofs.Ytdiofkkdhdhkaaa.one i)) = false
/-- The contract of Least. -/
def LeastOk (fn : Nat) : Prop :=
  ∀ (n : Int) (rs : List (Nat × Nat)) (A : Option Addr) (c : Nat) (w : World), W32 rs → rs.length ≤ maxLen → Row w A (rulesC rs) → Laid w →
    Calls Try.prog fn #[.int .i64 n, .slice A rs.length c] w fun e w' => ∃ (A2 : Option Addr) (c2 : Nat) (l : List (Nat × Nat)), e = .returned (.tuple #[.slice A2 l.length c2, .int .i64 (codeR n rs 0)]) ∧ (codeR n rs 0 = 0 → LeastL n.toNat rs l ∧ l.length ≤ 1000) ∧ (codeR n rs 0 ≠ 0 → l = []) ∧ l.length ≤ c2 ∧ Row w' A2 (rulesC l) ∧ Below w.heap.size w w'

end Go.Proofs.Ytdiofkkdhdhkaaa
