/- OrderCheck: what is wrong with a number and its pairs. -/
import Derived.Test.YtmlggmopkelcfaaDoorW2
namespace Go.Proofs.YtmlggmopkelcfaaDoor
open Go.RowKit

def CheckRel (n : Int) (ps : List (Int × Int)) (w : World) (i : Value) (wr : World) : Prop :=
  ∃ j : Nat, i = .int .i64 j ∧ j ≤ ps.length ∧ Good n (ps.take j) ∧ Below w.heap.size w wr

def CheckI (n : Nat) (ps : List (Int × Int)) (w : World) (v : Value) (wr : World) : Prop :=
  ∃ i : Nat, v = .int .i64 i ∧ i ≤ n ∧ Apart2 ps i 0 ∧ Below w.heap.size w wr
def CheckJ (ps : List (Int × Int)) (w : World) (i : Nat) (v : Value) (wr : World) : Prop :=
  ∃ j : Nat, v = .int .i64 j ∧ j ≤ i ∧ Apart2 ps i j ∧ Below w.heap.size w wr

end Go.Proofs.YtmlggmopkelcfaaDoor
