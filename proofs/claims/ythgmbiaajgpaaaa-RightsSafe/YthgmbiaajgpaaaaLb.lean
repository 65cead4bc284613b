/- Labels: what they are, what is under what; what the functions of package label are to answer. -/
import Derived.Test.YthgmbiaajgpaaaaRl
import Derived.Test.YthgmbiaajgpaaaaSetW
import Derived.Test.YthgmbiaajgpaaaaExt
import Derived.Test.YthgmbiaajgpaaaaW1
namespace Go.Proofs.Ythgmbiaajgpaaaa
open Go.RowKit

/-- A label: level and parts. -/
abbrev Lab := Int × Nat
/-- A label as a value. -/
def labV (a : Lab) : Value := .agg #[.int .i64 a.1, .int .u32 (a.2 : Int)]
def LabOk (a : Lab) : Prop := 0 ≤ a.1 ∧ a.1 ≤ 3 ∧ a.2 < 32
instance (a : Lab) : Decidable (LabOk a) := by unfold LabOk; infer_instance
def codeL (a : Lab) : Int := if LabOk a then 0 else 4
def codeLL (a b : Lab) : Int := if codeL a = 0 then codeL b else codeL a
theorem codeL_zero {a : Lab} (h : codeL a = 0) : LabOk a := by
  unfold codeL at h
  split at h
  · assumption
  · omega
theorem codeL_ok {a : Lab} (h : LabOk a) : codeL a = 0 := if_pos h
theorem codeL_bad {a : Lab} (h : ¬ LabOk a) : codeL a = 4 := if_neg h
theorem codeLL_zero {a b : Lab} (h : codeLL a b = 0) : LabOk a ∧ LabOk b := by
  unfold codeLL at h
  split at h
  · rename_i h1; exact ⟨codeL_zero h1, codeL_zero h⟩
  · rename_i h1; exact absurd h h1
theorem codeLL_ok {a b : Lab} (h : LabOk a) (k : LabOk b) : codeLL a b = 0 := by unfold codeLL; rw [codeL_ok h, if_pos rfl, codeL_ok k]
theorem codeLL_bad {a b : Lab} (h : ¬ (LabOk a ∧ LabOk b)) : codeLL a b = 4 := by
  unfold codeLL
  by_cases h1 : LabOk a
  · rw [codeL_ok h1, if_pos rfl, codeL_bad (fun k => h ⟨h1, k⟩)]
  · rw [codeL_bad h1, if_neg (by decide)]
/-- a is under b. -/
def underL (a b : Lab) : Bool := decide (a.1 ≤ b.1) && sub a.2 b.2
def joinL (a b : Lab) : Lab := (if a.1 < b.1 then b.1 else a.1, a.2 ||| b.2)
def meetL (a b : Lab) : Lab := (if b.1 < a.1 then b.1 else a.1, a.2 &&& b.2)
def numL (a : Lab) : Int := 32 * a.1 + a.2
theorem underL_iff {a b : Lab} : underL a b = true ↔ a.1 ≤ b.1 ∧ ∀ i, a.2.testBit i = true → b.2.testBit i = true := by
  unfold underL
  rw [Bool.and_eq_true_iff, decide_eq_true_iff, sub_iff]
theorem join_ok {a b : Lab} (h : LabOk a) (k : LabOk b) : LabOk (joinL a b) := by
  obtain ⟨h1, h2, h3⟩ := h
  obtain ⟨k1, k2, k3⟩ := k
  unfold LabOk joinL
  refine ⟨by simp only; split <;> omega, by simp only; split <;> omega, ?_⟩
  exact or_lt_iff (n := 5) |>.2 ⟨h3, k3⟩
theorem meet_ok {a b : Lab} (h : LabOk a) (k : LabOk b) : LabOk (meetL a b) := by
  obtain ⟨h1, h2, h3⟩ := h
  obtain ⟨k1, k2, k3⟩ := k
  unfold LabOk meetL
  exact ⟨by simp only; split <;> omega, by simp only; split <;> omega, Nat.lt_of_le_of_lt Nat.and_le_left h3⟩
theorem join_under {a b c : Lab} : underL (joinL a b) c = (underL a c && underL b c) := by
  rw [Bool.eq_iff_iff, Bool.and_eq_true_iff, underL_iff, underL_iff, underL_iff]
  unfold joinL
  simp only [Nat.testBit_or, Bool.or_eq_true_iff]
  constructor
  · rintro ⟨h1, h2⟩
    split at h1 <;> exact ⟨⟨by omega, fun i hi => h2 i (.inl hi)⟩, ⟨by omega, fun i hi => h2 i (.inr hi)⟩⟩
  · rintro ⟨⟨h1, h2⟩, ⟨h3, h4⟩⟩
    exact ⟨by split <;> omega, fun i hi => hi.elim (h2 i) (h4 i)⟩
theorem meet_under {a b c : Lab} : underL c (meetL a b) = (underL c a && underL c b) := by
  rw [Bool.eq_iff_iff, Bool.and_eq_true_iff, underL_iff, underL_iff, underL_iff]
  unfold meetL
  simp only [Nat.testBit_and, Bool.and_eq_true_iff]
  constructor
  · rintro ⟨h1, h2⟩
    split at h1 <;> exact ⟨⟨by omega, fun i hi => (h2 i hi).1⟩, ⟨by omega, fun i hi => (h2 i hi).2⟩⟩
  · rintro ⟨⟨h1, h2⟩, ⟨h3, h4⟩⟩
    exact ⟨by split <;> omega, fun i hi => ⟨h2 i hi, h4 i hi⟩⟩
theorem meet_join {a b c : Lab} : meetL c (joinL a b) = joinL (meetL c a) (meetL c b) := by
  unfold meetL joinL
  refine Prod.ext ?_ ?_
  · simp only
    (repeat' split) <;> omega
  · simp only
    apply Nat.eq_of_testBit_eq
    intro i
    simp only [Nat.testBit_and, Nat.testBit_or]
    cases c.2.testBit i <;> simp
/-- The label with a number. -/
def labOf (k : Int) : Lab := (k / 32, (k % 32).toNat)
theorem labOf_ok {k : Int} (h : 0 ≤ k ∧ k < 128) : LabOk (labOf k) ∧ numL (labOf k) = k := by
  unfold LabOk labOf numL
  refine ⟨⟨by simp only; omega, by simp only; omega, by simp only; omega⟩, by simp only; omega⟩
theorem numL_of {a : Lab} (h : LabOk a) : (0 ≤ numL a ∧ numL a < 128) ∧ labOf (numL a) = a := by
  obtain ⟨h1, h2, h3⟩ := h
  unfold numL labOf
  refine ⟨⟨by omega, by omega⟩, Prod.ext (by simp only; omega) (by simp only; omega)⟩
theorem lab_unique {a : Lab} {k : Int} (h : LabOk a) (hk : numL a = k) : a = labOf k := by rw [← hk]; exact (numL_of h).2.symm

/-- The contract of Check. -/
def LCheckOk (fn : Nat) : Prop := ∀ (a : Lab) (w : World), a.2 < 4294967296 → Laid w → Calls Try.prog fn #[labV a] w fun e w' => e = .returned (.int .i64 (codeL a)) ∧ Below w.heap.size w w'
/-- The contract of Under. -/
def LUnderOk (fn : Nat) : Prop := ∀ (a b : Lab) (w : World), a.2 < 4294967296 → b.2 < 4294967296 → Laid w → Calls Try.prog fn #[labV a, labV b] w fun e w' => e = .returned (.tuple #[.bool (codeLL a b == 0 && underL a b), .int .i64 (codeLL a b)]) ∧ Below w.heap.size w w'
/-- The contract of Join, and of Meet. -/
def LBothOk (fn : Nat) (J : Lab → Lab → Lab) : Prop := ∀ (a b : Lab) (w : World), a.2 < 4294967296 → b.2 < 4294967296 → Laid w → Calls Try.prog fn #[labV a, labV b] w fun e w' => e = .returned (.tuple #[labV (if codeLL a b = 0 then J a b else (0, 0)), .int .i64 (codeLL a b)]) ∧ Below w.heap.size w w'
def LJoinOk (fn : Nat) : Prop := LBothOk fn joinL
def LMeetOk (fn : Nat) : Prop := LBothOk fn meetL
/-- The contract of Number. -/
def LNumberOk (fn : Nat) : Prop := ∀ (a : Lab) (w : World), a.2 < 4294967296 → Laid w → Calls Try.prog fn #[labV a] w fun e w' => e = .returned (.tuple #[.int .i64 (if codeL a = 0 then numL a else 0), .int .i64 (codeL a)]) ∧ Below w.heap.size w w'
/-- The contract of Label. -/
def LLabelOk (fn : Nat) : Prop := ∀ (k : Int) (w : World), Laid w → Calls Try.prog fn #[.int .i64 k] w fun e w' => e = .returned (.tuple #[labV (if 0 ≤ k ∧ k < 128 then labOf k else (0, 0)), .int .i64 (if 0 ≤ k ∧ k < 128 then 0 else 5)]) ∧ Below w.heap.size w w'

end Go.Proofs.Ythgmbiaajgpaaaa
