/- Plain mathematics of primes: their list. -/
import Derived.Test.YtcebbhfpnkhlmaaWT3
namespace Go.Proofs.Ytcebbhfpnkhlmaa
open Go.RowKit

/-- Can none of the first k variables be left out? -/
def primV (n : Nat) (F : Nat → Bool) (y no k : Nat) : Bool := (List.range k).all fun v => !((y ||| no).testBit v && prodB F (wo y (one v)) (wo no (one v)) (one n))
theorem primV_succ (n : Nat) (F : Nat → Bool) (y no k : Nat) : primV n F y no (k + 1) = (primV n F y no k && !((y ||| no).testBit k && prodB F (wo y (one k)) (wo no (one k)) (one n))) := by simp [primV, List.range_succ]
/-- Is a product a prime? -/
def primeB (n : Nat) (F : Nat → Bool) (y no : Nat) : Bool := (y &&& no == 0) && prodB F y no (one n) && primV n F y no n
/-- The primes of one Yes, of the first k No. -/
def rowL (n : Nat) (F : Nat → Bool) (y k : Nat) : List (Nat × Nat) := ((List.range k).filter (primeB n F y)).map fun no => (y, no)
/-- The primes of the first k Yes. -/
def primL (n : Nat) (F : Nat → Bool) (k : Nat) : List (Nat × Nat) := (List.range k).flatMap fun y => rowL n F y (one n)
theorem primL_succ (n : Nat) (F : Nat → Bool) (k : Nat) : primL n F (k + 1) = primL n F k ++ rowL n F k (one n) := by simp [primL, List.range_succ]
theorem rowL_yes {n : Nat} {F : Nat → Bool} {y k : Nat} (h : primeB n F y k = true) : rowL n F y (k + 1) = rowL n F y k ++ [(y, k)] := by simp [rowL, List.range_succ, h]
theorem rowL_no {n : Nat} {F : Nat → Bool} {y k : Nat} (h : primeB n F y k = false) : rowL n F y (k + 1) = rowL n F y k := by simp [rowL, List.range_succ, h]
theorem rowL_len (n : Nat) (F : Nat → Bool) (y k : Nat) : (rowL n F y k).length ≤ k := by
  unfold rowL
  rw [List.length_map]
  have := List.length_filter_le (primeB n F y) (List.range k)
  simpa using this
theorem primL_len (n : Nat) (F : Nat → Bool) : ∀ k, (primL n F k).length ≤ k * one n
  | 0 => by simp [primL]
  | k + 1 => by
    rw [primL_succ, List.length_append, Nat.add_mul, Nat.one_mul]
    have h1 := primL_len n F k
    have h2 := rowL_len n F k (one n)
    omega
theorem mem_rowL {n : Nat} {F : Nat → Bool} {y k : Nat} {r : Nat × Nat} : r ∈ rowL n F y k ↔ r.1 = y ∧ r.2 < k ∧ primeB n F y r.2 = true := by
  unfold rowL
  simp only [List.mem_map, List.mem_filter, List.mem_range]
  constructor
  · rintro ⟨no, ⟨h1, h2⟩, rfl⟩; exact ⟨rfl, h1, h2⟩
  · rintro ⟨rfl, h1, h2⟩; exact ⟨r.2, ⟨h1, h2⟩, rfl⟩
theorem mem_primL {n : Nat} {F : Nat → Bool} {k : Nat} {r : Nat × Nat} : r ∈ primL n F k ↔ r.1 < k ∧ r.2 < one n ∧ primeB n F r.1 r.2 = true := by
  unfold primL
  simp only [List.mem_flatMap, List.mem_range, mem_rowL]
  constructor
  · rintro ⟨y, h1, rfl, h2, h3⟩; exact ⟨h1, h2, h3⟩
  · rintro ⟨h1, h2, h3⟩; exact ⟨r.1, h1, rfl, h2, h3⟩
end Go.Proofs.Ytcebbhfpnkhlmaa
