/- What the functions of package concept are to answer. -/
import Derived.Test.YtlokldjookngkaaWC1
import Derived.Test.YtlokldjookngkaaExt
namespace Go.Proofs.Ytlokldjookngkaa
open Go.RowKit

/-- The contract of Up. -/
def CUpOk (fn : Nat) : Prop :=
  ∀ (n : Int) (rows : List Nat) (A : Option Addr) (c o : Nat) (w : World), o < 4294967296 → U32 rows → rows.length ≤ maxLen → Row w A (words rows) → Laid w →
    Calls Try.prog fn #[.int .i64 n, .slice A rows.length c, .int .u32 o] w fun e w' => e = .returned (.tuple #[.int .u32 (if codeT n rows o 0 = 0 then upW n.toNat rows o else 0 : Nat), .int .i64 (codeT n rows o 0)]) ∧ Below w.heap.size w w'
/-- The contract of Down. -/
def CDownOk (fn : Nat) : Prop :=
  ∀ (n : Int) (rows : List Nat) (A : Option Addr) (c m : Nat) (w : World), m < 4294967296 → U32 rows → rows.length ≤ maxLen → Row w A (words rows) → Laid w →
    Calls Try.prog fn #[.int .i64 n, .slice A rows.length c, .int .u32 m] w fun e w' => e = .returned (.tuple #[.int .u32 (if codeT n rows 0 m = 0 then ownW rows m else 0 : Nat), .int .i64 (codeT n rows 0 m)]) ∧ Below w.heap.size w w'
/-- All concepts: objects and marks. -/
def conP (n : Nat) (rows : List Nat) : List (Nat × Nat) := (conL n rows (one n)).map fun m => (ownW rows m, m)
/-- The contract of All. -/
def CAllOk (fn : Nat) : Prop :=
  ∀ (n : Int) (rows : List Nat) (A : Option Addr) (c : Nat) (w : World), U32 rows → rows.length ≤ maxLen → Row w A (words rows) → Laid w →
    Calls Try.prog fn #[.int .i64 n, .slice A rows.length c] w fun e w' => ∃ (A2 : Option Addr) (c2 : Nat) (l : List (Nat × Nat)), e = .returned (.tuple #[.slice A2 l.length c2, .int .i64 (codeT n rows 0 0)]) ∧ l = (if codeT n rows 0 0 = 0 then conP n.toNat rows else []) ∧ l.length ≤ c2 ∧ Row w' A2 (rulesC l) ∧ Below w.heap.size w w'
/-- Is a rule so of each object? -/
def saysB (rows : List Nat) (a b : Nat) : Bool := rows.all fun m => closedB [(a, b)] m
/-- The contract of Says. -/
def CSaysOk (fn : Nat) : Prop :=
  ∀ (n : Int) (rows : List Nat) (A : Option Addr) (c a b : Nat) (w : World), a < 4294967296 → b < 4294967296 → U32 rows → rows.length ≤ maxLen → Row w A (words rows) → Laid w →
    Calls Try.prog fn #[.int .i64 n, .slice A rows.length c, .agg #[.int .u32 a, .int .u32 b]] w fun e w' => e = .returned (.tuple #[.bool (codeT n rows 0 (a ||| b) == 0 && saysB rows a b), .int .i64 (codeT n rows 0 (a ||| b))]) ∧ Below w.heap.size w w'
/-- What Next answers. -/
def NextP (n : Int) (rows : List Nat) (m s : Nat) (k : Int) : Prop :=
  (codeT n rows 0 m ≠ 0 → s = 0 ∧ k = codeT n rows 0 m) ∧ (codeT n rows 0 m = 0 → (k = 0 ∧ IsNext n.toNat rows m s) ∨ (k = 5 ∧ s = 0 ∧ NoNext n.toNat rows m))
/-- The contract of Next. -/
def CNextOk (fn : Nat) : Prop :=
  ∀ (n : Int) (rows : List Nat) (A : Option Addr) (c m : Nat) (w : World), m < 4294967296 → U32 rows → rows.length ≤ maxLen → Row w A (words rows) → Laid w →
    Calls Try.prog fn #[.int .i64 n, .slice A rows.length c, .int .u32 m] w fun e w' => ∃ (s : Nat) (k : Int), e = .returned (.tuple #[.int .u32 s, .int .i64 k]) ∧ NextP n rows m s k ∧ Below w.heap.size w w'
/-- A rule is so of each object just if what all have that have its marks has all that it says. -/
theorem says_up {n : Nat} {rows : List Nat} {a b : Nat} (hb : b < one n) : saysB rows a b = sub b (upW n rows (ownW rows a)) := by
  rw [Bool.eq_iff_iff]
  unfold saysB
  rw [List.all_eq_true, ← galois (ownW_lt rows a) hb, sub_iff]
  constructor
  · intro h i hi
    obtain ⟨h1, h2⟩ := mem_own.1 hi
    refine mem_own.2 ⟨h1, ?_⟩
    exact closed_iff.1 (h _ (rows_mem h1)) (a, b) (by simp) h2
  · intro h r hr
    refine closed_iff.2 fun x hx h2 => ?_
    simp at hx
    subst hx
    obtain ⟨i, hi, e⟩ := List.getElem_of_mem hr
    have hg : rows.getD i 0 = r := by rw [List.getD_eq_getElem?_getD, List.getElem?_eq_getElem hi]; exact e
    have := (mem_own.1 (h i (mem_own.2 ⟨hi, by rw [hg]; exact h2⟩))).2
    rw [hg] at this
    exact this

end Go.Proofs.Ytlokldjookngkaa
