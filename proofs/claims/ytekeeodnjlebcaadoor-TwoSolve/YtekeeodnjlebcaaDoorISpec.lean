/- What the functions of package clause are to answer. -/
import Derived.Test.YtekeeodnjlebcaaDoorWI1
namespace Go.Proofs.YtekeeodnjlebcaaDoor
open Go.RowKit

/-- The answer of Solve. -/
noncomputable def solS (n : Int) (l : List Cla) : Nat := if codeC n l = 0 then (firstS n.toNat l).getD 0 else 0
theorem codeS_err {n : Int} {l : List Cla} (h : codeC n l ≠ 0) : codeS n l = codeC n l := by simp [codeS, h]
theorem solS_err {n : Int} {l : List Cla} (h : codeC n l ≠ 0) : solS n l = 0 := by simp [solS, h]
theorem codeS_none {n : Nat} {l : List Cla} (h : codeC n l = 0) (k : firstS n l = none) : codeS n l = 5 := by simp [codeS, h, k]
theorem solS_none {n : Nat} {l : List Cla} (h : codeC n l = 0) (k : firstS n l = none) : solS n l = 0 := by simp [solS, h, k]
theorem codeS_some {n : Nat} {l : List Cla} {s : Nat} (h : codeC n l = 0) (k : firstS n l = some s) : codeS n l = 0 := by simp [codeS, h, k]
theorem solS_some {n : Nat} {l : List Cla} {s : Nat} (h : codeC n l = 0) (k : firstS n l = some s) : solS n l = s := by simp [solS, h, k]
theorem codeH_err {n : Int} {l : List Cla} (h : codeC n l ≠ 0) : codeH n l = codeC n l := by simp [codeH, h]
theorem codeH_form {n : Int} {l : List Cla} (h : codeC n l = 0) (k : hornB l = false) : codeH n l = 3 := by simp [codeH, h, k]
theorem codeH_none {n : Nat} {l : List Cla} (h : codeC n l = 0) (k : hornB l = true) (m : firstS n l = none) : codeH n l = 5 := by simp [codeH, h, k, m]
theorem codeH_some {n : Nat} {l : List Cla} {s : Nat} (h : codeC n l = 0) (k : hornB l = true) (m : firstS n l = some s) : codeH n l = 0 := by simp [codeH, h, k, m]
theorem codeU_err {n : Int} {l : List Cla} (h : codeC n l ≠ 0) : codeU n l = codeC n l := by simp [codeU, h]
theorem codeU_none {n : Nat} {l : List Cla} (h : codeC n l = 0) (k : firstS n l = none) : codeU n l = 0 := by simp [codeU, h, k]
theorem codeU_some {n : Nat} {l : List Cla} {s : Nat} (h : codeC n l = 0) (k : firstS n l = some s) : codeU n l = 5 := by simp [codeU, h, k]

/-- The contract of Solve. -/
def ISolveOk (fn : Nat) : Prop :=
  ∀ (n : Int) (l : List Cla) (A : Option Addr) (c : Nat) (w : World), W32 l → l.length ≤ maxLen → Row w A (rulesC l) → Laid w →
    Calls Tryd.prog fn #[.int .i64 n, .slice A l.length c] w fun e w' => e = .returned (.tuple #[.int .u32 (solS n l : Nat), .int .i64 (codeS n l)]) ∧ Below w.heap.size w w'
/-- The contract of Horn. -/
def IHornOk (fn : Nat) : Prop :=
  ∀ (n : Int) (l : List Cla) (A : Option Addr) (c : Nat) (w : World), W32 l → l.length ≤ maxLen → Row w A (rulesC l) → Laid w →
    Calls Tryd.prog fn #[.int .i64 n, .slice A l.length c] w fun e w' => ∃ s : Nat, e = .returned (.tuple #[.int .u32 s, .int .i64 (codeH n l)]) ∧ (codeH n l = 0 → IsLeastM n.toNat l s) ∧ (codeH n l ≠ 0 → s = 0) ∧ Below w.heap.size w w'
/-- The contract of Refute. -/
def IRefuteOk (fn : Nat) : Prop :=
  ∀ (n : Int) (l : List Cla) (A : Option Addr) (c : Nat) (w : World), W32 l → l.length ≤ maxLen → Row w A (rulesC l) → Laid w →
    Calls Tryd.prog fn #[.int .i64 n, .slice A l.length c] w fun e w' => ∃ (A2 : Option Addr) (c2 : Nat) (ps : List (Int × Int)), e = .returned (.tuple #[.slice A2 ps.length c2, .int .i64 (codeU n l)]) ∧
      (codeU n l = 0 → refutesB l ps = true) ∧ (codeU n l ≠ 0 → ps = []) ∧ ps.length ≤ 1000000 ∧ Row w' A2 (pairsC ps) ∧ Below w.heap.size w w'

end Go.Proofs.YtekeeodnjlebcaaDoor
