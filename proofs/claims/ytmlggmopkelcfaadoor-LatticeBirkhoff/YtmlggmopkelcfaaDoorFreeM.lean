/- Plain mathematics: sets of which none is below another. -/
import Derived.Test.YtmlggmopkelcfaaDoorW7
namespace Go.Proofs.YtmlggmopkelcfaaDoor
open Go.RowKit

/-- No two of a set are one below the other: looked at for the first i, and the first j of i. -/
def Fr (n : Nat) (ps : List (Int × Int)) (s i j : Nat) : Prop :=
  ∀ a b : Nat, (a < i ∧ b < n ∨ a = i ∧ b < j) → a ≠ b → s.testBit a = true → s.testBit b = true → under ps a b = false
open Classical in
/-- Is none of a set below another one of it? -/
noncomputable def freeB (n : Nat) (ps : List (Int × Int)) (s : Nat) : Bool := decide (Fr n ps s n 0)
theorem freeB_iff {n : Nat} {ps : List (Int × Int)} {s : Nat} : freeB n ps s = true ↔ Fr n ps s n 0 := by simp [freeB]
theorem freeB_no {n : Nat} {ps : List (Int × Int)} {s a b : Nat} (ha : a < n) (hb : b < n) (hab : a ≠ b) (h1 : s.testBit a = true) (h2 : s.testBit b = true) (h3 : under ps a b = true) : freeB n ps s = false := by
  cases h : freeB n ps s with
  | false => rfl
  | true =>
    have := freeB_iff.1 h a b (.inl ⟨ha, hb⟩) hab h1 h2
    rw [h3] at this
    cases this
theorem Fr.init (n : Nat) (ps : List (Int × Int)) (s : Nat) : Fr n ps s 0 0 := by intro a b h; omega
theorem Fr.step {n : Nat} {ps : List (Int × Int)} {s i j : Nat} (h : Fr n ps s i j) (hn : i ≠ j → s.testBit i = true → s.testBit j = true → under ps i j = false) : Fr n ps s i (j + 1) := by
  intro a b hab
  by_cases e : a = i ∧ b = j
  · obtain ⟨rfl, rfl⟩ := e; exact hn
  · exact h a b (by omega)
theorem Fr.next {n : Nat} {ps : List (Int × Int)} {s i : Nat} (h : Fr n ps s i n) : Fr n ps s (i + 1) 0 := by
  intro a b hab
  exact h a b (by omega)

end Go.Proofs.YtmlggmopkelcfaaDoor
