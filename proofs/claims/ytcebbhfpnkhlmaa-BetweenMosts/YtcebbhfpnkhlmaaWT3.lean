/- syllogistref.Product, Clauses, Primes. -/
import Derived.Test.YtcebbhfpnkhlmaaWT2
import Derived.Test.YtcebbhfpnkhlmaaSetW
import Derived.Laws.StructEq
namespace Go.Proofs.Ytcebbhfpnkhlmaa
open Go.RowKit

/-- Is the product true only where the table is, of the first k sets? -/
def prodB (F : Nat → Bool) (y n k : Nat) : Bool := (List.range k).all fun s => !(sub y s && (n &&& s == 0) && !F s)
theorem prodB_succ (F : Nat → Bool) (y n k : Nat) : prodB F y n (k + 1) = (prodB F y n k && !(sub y k && (n &&& k == 0) && !F k)) := by simp [prodB, List.range_succ]
theorem prodB_no {F : Nat → Bool} {y n k m : Nat} (hk : k < m) (h : (!(sub y k && (n &&& k == 0) && !F k)) = false) : prodB F y n m = false := by
  cases e : prodB F y n m with
  | false => rfl
  | true =>
    rw [prodB, List.all_eq_true] at e
    rw [e k (List.mem_range.2 hk)] at h
    cases h
theorem u32_and_zero {a b : Nat} (ha : a < 4294967296) (hb : b < 4294967296) : (bits .and .u32 (a : Int) (b : Int) == 0) = (a &&& b == 0) := by
  rw [u32_and_nat a b ha hb, Bool.eq_iff_iff, beq_iff_eq, beq_iff_eq]
  omega
/-- A struct of two words, in memory. -/
def TwoC (w : World) (g a b : Nat) : Prop := w.cell? ⟨g, 0, none⟩ = some (.int .u32 (a : Int)) ∧ w.cell? ⟨g, 1, none⟩ = some (.int .u32 (b : Int))
theorem TwoC.below {w w' : World} {g a b : Nat} (h : TwoC w g a b) (hb : Below w.heap.size w w') : TwoC w' g a b :=
  ⟨(hb.cell (p := ⟨g, 0, none⟩) (block_lt_of_cell h.1)).trans h.1, (hb.cell (p := ⟨g, 1, none⟩) (block_lt_of_cell h.2)).trans h.2⟩
theorem TwoC.made (w : World) (a b : Nat) (t : TypeId) : TwoC (w.alloc (.cells #[.int .u32 (a : Int), .int .u32 (b : Int)] t)) w.heap.size a b := by
  constructor <;> simp

theorem RowR.cells {w : World} {A : Option Addr} {rs : List (Nat × Nat)} {k : Nat} {r : Nat × Nat} (h : Row w A (rulesC rs)) (hr : rs[k]? = some r) :
    ∃ b off, A = some ⟨b, off, none⟩ ∧ w.cell? ⟨b, off + k * 2, none⟩ = some (.int .u32 (r.1 : Int)) ∧ w.cell? ⟨b, off + k * 2 + 1, none⟩ = some (.int .u32 (r.2 : Int)) := by
  have hk : k < rs.length := (List.getElem?_eq_some_iff.1 hr).1
  obtain ⟨b, off, rfl, hc⟩ := h.at (k := k * 2) (by rw [rulesC_length]; omega)
  exact ⟨b, off, rfl, hc _ _ (rulesC_at0 hr), hc _ _ (rulesC_at1 hr)⟩

end Go.Proofs.Ytcebbhfpnkhlmaa
