/- syllogistref.TableCheck, Up, Owners, Concepts, Behind. -/
import Derived.Test.YtihhplkcpdepgaaCn
import Derived.Test.YtihhplkcpdepgaaW1
import Derived.Test.YtihhplkcpdepgaaOwnU
namespace Go.Proofs.Ytihhplkcpdepgaa
open Go.RowKit

/-- Words of 32 bits. -/
def U32 (rows : List Nat) : Prop := ∀ r ∈ rows, r < 4294967296
theorem FitT.u32 {n : Nat} {rows : List Nat} (h : FitT n rows) (hn : n ≤ 6) : U32 rows := fun r hr => by have h1 := h r hr; have h2 := one_le_64 hn; omega
theorem rows_at {rows : List Nat} {k : Nat} (h : k < rows.length) : rows[k]? = some (rows.getD k 0) := by
  rw [List.getD_eq_getElem?_getD, List.getElem?_eq_getElem h]; rfl
theorem rows_mem {rows : List Nat} {k : Nat} (h : k < rows.length) : rows.getD k 0 ∈ rows := List.mem_of_getElem? (rows_at h)

theorem wordOf_yes {k : Nat} {p : Nat → Bool} (h : p k = true) : wordOf (k + 1) p = wordOf k p + one k := by
  rw [wordOf, if_pos h]
  exact Nat.or_two_pow_eq_add_of_lt (wordOf_lt k p)
theorem wordOf_no {k : Nat} {p : Nat → Bool} (h : p k = false) : wordOf (k + 1) p = wordOf k p := by
  rw [wordOf, if_neg (by rw [h]; decide)]; simp

/-- Has each of the first i objects that are in o the mark m? -/
def upP (rows : List Nat) (o m i : Nat) : Bool := (List.range i).all fun j => !(o.testBit j) || (rows.getD j 0).testBit m
theorem upP_succ (rows : List Nat) (o m i : Nat) : upP rows o m (i + 1) = (upP rows o m i && (!(o.testBit i) || (rows.getD i 0).testBit m)) := by simp [upP, List.range_succ]

/-- The loop that lists the concepts' marks. -/
def ConRel (n : Nat) (rows : List Nat) (w : World) (v sv : Value) (wr : World) : Prop :=
  ∃ k : Nat, sv = .int .u32 k ∧ k ≤ one n ∧ (∃ l, l = conL n rows k ∧ OwnU wr w.heap.size v l) ∧ Below w.heap.size w wr

theorem beh_next {a b i : Nat} (h : ∀ j, j < i → a.testBit j = b.testBit j) (e : a.testBit i = b.testBit i) : ∀ j, j < i + 1 → a.testBit j = b.testBit j := fun j hj => by
  by_cases k : j = i
  · subst k; exact e
  · exact h j (by omega)

end Go.Proofs.Ytihhplkcpdepgaa
