/- Sets as words: what is without, what fits. -/
import Derived.Test.YthgmbiaajgpaaaaRl
import Derived.Test.YthgmbiaajgpaaaaW1
namespace Go.Proofs.Ythgmbiaajgpaaaa
open Go.RowKit

theorem and_not_bit {a b i : Nat} (hb : b < 4294967296) (ha : a < 4294967296) : (a &&& (4294967295 - b)).testBit i = (a.testBit i && !b.testBit i) := by
  rw [Nat.testBit_and]
  by_cases hi : i < 32
  · have h := Nat.testBit_two_pow_sub_succ (x := b) (n := 32) hb i
    rw [show (4294967295 - b) = 2 ^ 32 - (b + 1) from by omega, h]
    simp [hi]
  · have : a.testBit i = false := by
      apply Nat.testBit_lt_two_pow
      exact Nat.lt_of_lt_of_le ha (Nat.le_trans (by decide : 4294967296 ≤ 2 ^ 32) (Nat.pow_le_pow_right (by decide) (by omega)))
    simp [this]
/-- a without b. -/
def wo (a b : Nat) : Nat := a &&& (4294967295 - b)
theorem wo_le (a b : Nat) : wo a b ≤ a := Nat.and_le_left
theorem u32_wo {a b : Nat} (ha : a < 4294967296) (hb : b < 4294967296) : bits .andNot .u32 (a : Int) (b : Int) = (wo a b : Nat) := u32_andNot_nat a b ha hb
theorem wo_zero {a b : Nat} (ha : a < 4294967296) (hb : b < 4294967296) : wo a b = 0 ↔ sub a b = true := by
  rw [sub_iff]
  constructor
  · intro h i hi
    have := and_not_bit (i := i) hb ha
    unfold wo at h
    rw [h, hi] at this
    simpa using this
  · intro h
    apply Nat.eq_of_testBit_eq
    intro i
    unfold wo
    rw [and_not_bit hb ha]
    cases e : a.testBit i with
    | false => simp
    | true => simp [h i e]
theorem u32_subB {a b : Nat} (ha : a < 4294967296) (hb : b < 4294967296) : (bits .andNot .u32 (a : Int) (b : Int) == 0) = sub a b := by
  rw [u32_wo ha hb, Bool.eq_iff_iff, ← wo_zero ha hb, beq_iff_eq]
  omega
theorem full_u32 {n : Nat} (hn : n ≤ 6) : full n < 4294967296 := by
  have := one_le_64 hn
  have := full_lt n
  omega
theorem sub_full_iff {n a : Nat} : sub a (full n) = true ↔ a < one n := ⟨fun h => lt_of_sub h (full_lt n), sub_full⟩

/-- All are sets of n things. -/
def fitB (n : Nat) (l : List Nat) : Bool := l.all fun s => sub s (full n)
theorem fit_take {n k s : Nat} {l : List Nat} (h : fitB n (l.take k) = true) (hs : l[k]? = some s) (h2 : sub s (full n) = true) : fitB n (l.take (k + 1)) = true := by
  rw [List.take_add_one, hs]
  unfold fitB at *
  simp only [Option.toList, List.all_append, h, List.all_cons, h2, List.all_nil, Bool.and_true]
theorem fit_no {n k s : Nat} {l : List Nat} (hs : l[k]? = some s) (h2 : sub s (full n) = false) : fitB n l = false := by
  cases e : fitB n l with
  | false => rfl
  | true =>
    rw [fitB, List.all_eq_true] at e
    rw [e s (List.mem_of_getElem? hs)] at h2
    cases h2

/-- What the sets have together. -/
def orL (l : List Nat) : Nat := l.foldr (· ||| ·) 0
theorem orL_fit {n : Nat} {l : List Nat} : fitB n l = true ↔ orL l < one n := by
  induction l with
  | nil => simp [fitB, orL, one_pos]
  | cons x xs ih =>
    rw [show orL (x :: xs) = x ||| orL xs from rfl, or_lt_iff, ← ih, ← sub_full_iff]
    simp [fitB]
theorem row_new (w : World) (g : Nat) (hg : g = w.heap.size) (cs : List Value) (t : TypeId) : Row (w.alloc (.cells cs.toArray t)) (some ⟨g, 0, none⟩) cs := by
  refine .inr ⟨g, 0, rfl, fun j v hv => ?_⟩
  rw [World.cell?_alloc_at _ _ _ _ hg]
  simpa using hv
theorem news_two (w : World) (a b : Nat) (t : TypeId) : ∀ j u, ([.int .u32 (a : Int), .int .u32 (b : Int)] : List Value)[j]? = some u → (w.alloc (.cells #[.int .u32 (a : Int), .int .u32 (b : Int)] t)).cell? ((⟨w.heap.size, 0, none⟩ : Addr).add j) = some u :=
  row_news (row_new w w.heap.size rfl [.int .u32 (a : Int), .int .u32 (b : Int)] t)

end Go.Proofs.Ythgmbiaajgpaaaa
