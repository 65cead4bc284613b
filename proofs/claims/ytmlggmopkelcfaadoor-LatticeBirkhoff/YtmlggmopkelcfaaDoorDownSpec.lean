/- What the functions on down-sets are to answer. -/
import Derived.Test.YtmlggmopkelcfaaDoorWDown
import Derived.Test.YtmlggmopkelcfaaDoorExt
namespace Go.Proofs.YtmlggmopkelcfaaDoor
open Go.RowKit

/-- The contract of Many. -/
def ManyOk (fn : Nat) : Prop :=
  ∀ (n : Int) (ps : List (Int × Int)) (A : Option Addr) (c : Nat) (w : World), ps.length ≤ maxLen → Row w A (pairsC ps) → Laid w →
    Calls Tryd.prog fn #[.int .i64 n, .slice A ps.length c] w fun e w' => e = .returned (.tuple #[.int .i64 (if code n ps = 0 then cntW (downB n.toNat ps) (one n.toNat) else 0 : Nat), .int .i64 (code n ps)]) ∧ Below w.heap.size w w'
/-- All down-sets. -/
noncomputable def downL (n : Nat) (ps : List (Int × Int)) (m : Nat) : List Nat := (List.range m).filter (downB n ps)
/-- The contract of All. -/
def AllOk (fn : Nat) : Prop :=
  ∀ (n : Int) (ps : List (Int × Int)) (A : Option Addr) (c : Nat) (w : World), ps.length ≤ maxLen → Row w A (pairsC ps) → Laid w →
    Calls Tryd.prog fn #[.int .i64 n, .slice A ps.length c] w fun e w' => ∃ (A2 : Option Addr) (c2 : Nat) (l : List Nat), e = .returned (.tuple #[.slice A2 l.length c2, .int .i64 (code n ps)]) ∧ l = (if code n ps = 0 then downL n.toNat ps (one n.toNat) else []) ∧ Row w' A2 (words l) ∧ Below w.heap.size w w'
/-- The contract of Fill. -/
def FillOk (fn : Nat) : Prop :=
  ∀ (n : Int) (ps : List (Int × Int)) (A : Option Addr) (c s : Nat) (w : World), s < 4294967296 → ps.length ≤ maxLen → Row w A (pairsC ps) → Laid w →
    Calls Tryd.prog fn #[.int .i64 n, .slice A ps.length c, .int .u32 s] w fun e w' => e = .returned (.tuple #[.int .u32 (if codeS n ps s = 0 then fillW n.toNat ps s else 0 : Nat), .int .i64 (codeS n ps s)]) ∧ Below w.heap.size w w'
/-- The code of Edge. -/
noncomputable def codeE (n : Int) (ps : List (Int × Int)) (s : Nat) : Int := if codeS n ps s = 0 then (if downB n.toNat ps s = true then 0 else 3) else codeS n ps s
theorem codeE_ok {n : Nat} {ps : List (Int × Int)} {s : Nat} (h : code n ps = 0) (k : s < one n) (l : downB n ps s = true) : codeE n ps s = 0 := by simp [codeE, codeS_ok h k, l]
theorem codeE_form {n : Nat} {ps : List (Int × Int)} {s : Nat} (h : code n ps = 0) (k : s < one n) (l : downB n ps s = false) : codeE n ps s = 3 := by simp [codeE, codeS_ok h k, l]
theorem codeE_err {n : Int} {ps : List (Int × Int)} {s : Nat} (h : codeS n ps s ≠ 0) : codeE n ps s = codeS n ps s := by simp [codeE, h]
/-- The contract of Edge. -/
def EdgeOk (fn : Nat) : Prop :=
  ∀ (n : Int) (ps : List (Int × Int)) (A : Option Addr) (c s : Nat) (w : World), s < 4294967296 → ps.length ≤ maxLen → Row w A (pairsC ps) → Laid w →
    Calls Tryd.prog fn #[.int .i64 n, .slice A ps.length c, .int .u32 s] w fun e w' => e = .returned (.tuple #[.int .u32 (if codeE n ps s = 0 then edgeW n.toNat ps s else 0 : Nat), .int .i64 (codeE n ps s)]) ∧ Below w.heap.size w w'

end Go.Proofs.YtmlggmopkelcfaaDoor
