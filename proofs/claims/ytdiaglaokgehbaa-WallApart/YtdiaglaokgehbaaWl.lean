/- The Chinese wall: firms, classes, who has read what. -/
import Derived.Test.YtdiaglaokgehbaaRl
import Derived.Test.YtdiaglaokgehbaaSetW
import Derived.Test.YtdiaglaokgehbaaExt
import Derived.Test.YtdiaglaokgehbaaW1
namespace Go.Proofs.Ytdiaglaokgehbaa
open Go.RowKit

/-- The numbers of a list, by their places. -/
def atI (l : List Int) (i : Nat) : Int := l[i]?.getD 0
theorem atI_get {l : List Int} {i : Nat} (h : i < l.length) : l[i]? = some (atI l i) := by
  unfold atI
  rw [List.getElem?_eq_getElem h]
  rfl
def LargeF (nf nc : Nat) : Prop := 8 < nf ∨ 8 < nc
instance (nf nc : Nat) : Decidable (LargeF nf nc) := by unfold LargeF; infer_instance
/-- The code of firms and classes. -/
def codeF (fi cl : List Int) : Int := if LargeF fi.length cl.length then 1 else if ∀ f ∈ fi, -1 ≤ f ∧ f < (cl.length : Int) then 0 else 2
theorem codeF_large {fi cl : List Int} (h : LargeF fi.length cl.length) : codeF fi cl = 1 := if_pos h
theorem codeF_ok {fi cl : List Int} (h : ¬ LargeF fi.length cl.length) (h2 : ∀ f ∈ fi, -1 ≤ f ∧ f < (cl.length : Int)) : codeF fi cl = 0 := by rw [codeF, if_neg h, if_pos h2]
theorem codeF_bad {fi cl : List Int} (h : ¬ LargeF fi.length cl.length) (h2 : ¬ ∀ f ∈ fi, -1 ≤ f ∧ f < (cl.length : Int)) : codeF fi cl = 2 := by rw [codeF, if_neg h, if_neg h2]
theorem codeF_zero {fi cl : List Int} (h : codeF fi cl = 0) : fi.length ≤ 8 ∧ cl.length ≤ 8 ∧ ∀ f ∈ fi, -1 ≤ f ∧ f < (cl.length : Int) := by
  unfold codeF at h
  split at h
  · omega
  · rename_i h1
    split at h
    · rename_i h2
      unfold LargeF at h1
      exact ⟨by omega, by omega, h2⟩
    · omega
/-- How many firms of a's class have a thing, of the first k. -/
def manyW (fi cl : List Int) (a : Nat) : Nat → Nat
  | 0 => 0
  | k + 1 => manyW fi cl a k + if atI cl k = atI cl a ∧ (k : Int) ∈ fi then 1 else 0
theorem manyW_le (fi cl : List Int) (a k : Nat) : manyW fi cl a k ≤ k := by
  induction k with
  | zero => exact Nat.le_refl _
  | succ k ih => unfold manyW; split <;> omega
/-- The most of them, of the first k firms' classes. -/
def mostW (fi cl : List Int) : Nat → Nat
  | 0 => 0
  | k + 1 => if mostW fi cl k < manyW fi cl k cl.length ∧ (k : Int) ∈ fi then manyW fi cl k cl.length else mostW fi cl k
theorem mostW_le (fi cl : List Int) (k : Nat) : mostW fi cl k ≤ cl.length := by
  induction k with
  | zero => exact Nat.zero_le _
  | succ k ih =>
    unfold mostW
    split
    · exact manyW_le _ _ _ _
    · exact ih

/-- The contract of Fewest. -/
def WFewestOk (fn : Nat) : Prop :=
  ∀ (fi : List Int) (A : Option Addr) (c : Nat) (cl : List Int) (A2 : Option Addr) (c2 : Nat) (w : World), fi.length ≤ maxLen → fi.length ≤ c → Row w A (ints fi) → cl.length ≤ maxLen → cl.length ≤ c2 → (∀ x ∈ cl, (Lit.int .i64 x).wf = true) → Row w A2 (ints cl) → Laid w →
    Calls Try.prog fn #[.slice A fi.length c, .slice A2 cl.length c2] w fun e w' => e = .returned (.tuple #[.int .i64 (if codeF fi cl = 0 then mostW fi cl cl.length else 0 : Nat), .int .i64 (codeF fi cl)]) ∧ Below w.heap.size w w'

end Go.Proofs.Ytdiaglaokgehbaa
