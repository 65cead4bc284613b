/- What the functions of package two are to answer. -/
import Derived.Test.YtekeeodnjlebcaaISpec
import Derived.Test.YtekeeodnjlebcaaTw
namespace Go.Proofs.Ytekeeodnjlebcaa
open Go.RowKit

/-- The code and the answer of Solve. -/
noncomputable def codeE (n : Int) (l : List Cla) : Int := if codeD n l = 0 then codeS n l else codeD n l
noncomputable def solD (n : Int) (l : List Cla) : Nat := if codeD n l = 0 then solS n l else 0
/-- The answers of Reach and Stuck. -/
noncomputable def reachL (n : Int) (l : List Cla) : List Nat := if codeD n l = 0 then (List.range (n.toNat + n.toNat)).map (reachW n.toNat l) else []
noncomputable def stuckD (n : Int) (l : List Cla) : Nat := if codeD n l = 0 then stuckW n.toNat l else 0
theorem codeE_err {n : Int} {l : List Cla} (h : codeD n l ≠ 0) : codeE n l = codeD n l := by simp [codeE, h]
theorem solD_err {n : Int} {l : List Cla} (h : codeD n l ≠ 0) : solD n l = 0 := by simp [solD, h]
theorem codeE_ok {n : Int} {l : List Cla} (h : codeD n l = 0) : codeE n l = codeS n l := by simp [codeE, h]
theorem solD_ok {n : Int} {l : List Cla} (h : codeD n l = 0) : solD n l = solS n l := by simp [solD, h]
theorem reachL_err {n : Int} {l : List Cla} (h : codeD n l ≠ 0) : reachL n l = [] := by simp [reachL, h]
theorem reachL_ok {n : Nat} {l : List Cla} (h : codeD n l = 0) : reachL n l = (List.range (n + n)).map (reachW n l) := by simp [reachL, h]
theorem stuckD_err {n : Int} {l : List Cla} (h : codeD n l ≠ 0) : stuckD n l = 0 := by simp [stuckD, h]
theorem stuckD_ok {n : Nat} {l : List Cla} (h : codeD n l = 0) : stuckD n l = stuckW n l := by simp [stuckD, h]

/-- The contract of Reach. -/
def JReachOk (fn : Nat) : Prop :=
  ∀ (n : Int) (l : List Cla) (A : Option Addr) (c : Nat) (w : World), W32 l → l.length ≤ maxLen → Row w A (rulesC l) → Laid w →
    Calls Try.prog fn #[.int .i64 n, .slice A l.length c] w fun e w' => ∃ (A2 : Option Addr) (c2 : Nat) (L : List Nat), e = .returned (.tuple #[.slice A2 L.length c2, .int .i64 (codeD n l)]) ∧ L = reachL n l ∧ Row w' A2 (words L) ∧ Below w.heap.size w w'
/-- The contract of Stuck. -/
def JStuckOk (fn : Nat) : Prop :=
  ∀ (n : Int) (l : List Cla) (A : Option Addr) (c : Nat) (w : World), W32 l → l.length ≤ maxLen → Row w A (rulesC l) → Laid w →
    Calls Try.prog fn #[.int .i64 n, .slice A l.length c] w fun e w' => e = .returned (.tuple #[.int .u32 (stuckD n l : Nat), .int .i64 (codeD n l)]) ∧ Below w.heap.size w w'
/-- The contract of Solve. -/
def JSolveOk (fn : Nat) : Prop :=
  ∀ (n : Int) (l : List Cla) (A : Option Addr) (c : Nat) (w : World), W32 l → l.length ≤ maxLen → Row w A (rulesC l) → Laid w →
    Calls Try.prog fn #[.int .i64 n, .slice A l.length c] w fun e w' => e = .returned (.tuple #[.int .u32 (solD n l : Nat), .int .i64 (codeE n l)]) ∧ Below w.heap.size w w'

end Go.Proofs.Ytekeeodnjlebcaa
