/- What rights.Close, Safe and Steps are to answer. -/
import Derived.Test.YthgmbiaajgpaaaaMx2
import Derived.Test.YthgmbiaajgpaaaaExt
namespace Go.Proofs.Ythgmbiaajgpaaaa
open Go.RowKit

theorem Mats.u2 {w : World} {A : Option Addr} {m : Mat} (h : Mats w A m) : U2 (atM m) := fun i j => by
  unfold atM
  cases hi : m[i]? with
  | none => simp
  | some r =>
    obtain ⟨_, _, _, _, _, _, h3, _⟩ := h.row hi
    cases hj : r[j]? with
    | none => simp [hj]
    | some x =>
      simp only [Option.getD_some, hj]
      exact h3 x (List.mem_of_getElem? hj)
theorem Mats.lens {w : World} {A : Option Addr} {m : Mat} (h : Mats w A m) : ∀ r ∈ m, r.length ≤ maxLen := fun r hr => by
  obtain ⟨i, hi⟩ := List.mem_iff_getElem?.1 hr
  obtain ⟨_, _, _, _, _, _, _, h4, _⟩ := h.row hi
  exact h4
theorem codeXC_zero {n : Int} {m : Mat} {nc : Nat} {x y : Int} (h : codeXC n m nc x y = 0) : codeX n m nc = 0 ∧ 0 ≤ x ∧ x < n ∧ 0 ≤ y ∧ y < n := by
  unfold codeXC at h
  split at h
  · rename_i h1; exact absurd h h1
  · rename_i h1
    split at h
    · cases h
    · rename_i h2
      exact ⟨Decidable.not_not.1 h1, by omega, by omega, by omega, by omega⟩
/-- What Close's matrix is. -/
def CloseR (n : Int) (m : Mat) (l : List Chn) (g : Mat) : Prop := (codeX n m l.length = 0 → g = tab2 n.toNat (closeX n.toNat l (atM m))) ∧ (codeX n m l.length ≠ 0 → g = [])
/-- The contract of Close. -/
def RtCloseOk (fn : Nat) : Prop :=
  ∀ (n : Int) (m : Mat) (A : Option Addr) (c : Nat) (l : List Chn) (A2 : Option Addr) (c2 : Nat) (w : World),
    m.length ≤ maxLen → m.length ≤ c → Mats w A m → l.length ≤ maxLen → l.length ≤ c2 → C32 l → Row w A2 (chnsC l) → Laid w →
    Calls Try.prog fn #[.int .i64 n, .slice A m.length c, .slice A2 l.length c2] w fun e w' => ∃ (B : Option Addr) (k : Nat) (g : Mat),
      e = .returned (.tuple #[.slice B g.length k, .int .i64 (codeX n m l.length)]) ∧ CloseR n m l g ∧ g.length ≤ k ∧ Mats w' B g ∧ Below w.heap.size w w'
/-- The contract of Safe. -/
def RtSafeOk (fn : Nat) : Prop :=
  ∀ (n : Int) (m : Mat) (A : Option Addr) (c : Nat) (l : List Chn) (A2 : Option Addr) (c2 : Nat) (x y : Int) (r : Nat) (w : World),
    m.length ≤ maxLen → m.length ≤ c → Mats w A m → l.length ≤ maxLen → l.length ≤ c2 → C32 l → Row w A2 (chnsC l) → r < 4294967296 → Laid w →
    Calls Try.prog fn #[.int .i64 n, .slice A m.length c, .slice A2 l.length c2, .int .i64 x, .int .i64 y, .int .u32 (r : Int)] w fun e w' => ∃ b : Bool,
      e = .returned (.tuple #[.bool b, .int .i64 (codeXC n m l.length x y)]) ∧ (b = true ↔ codeXC n m l.length x y = 0 ∧ sub r (closeX n.toNat l (atM m) x.toNat y.toNat) = false) ∧ Below w.heap.size w w'
/-- What Steps answers. -/
def StepR (n : Int) (m : Mat) (l : List Chn) (x y : Int) (r : Nat) (k f : Int) : Prop :=
  (codeXC n m l.length x y ≠ 0 → k = 0 ∧ f = codeXC n m l.length x y) ∧
  (codeXC n m l.length x y = 0 → sub r (closeX n.toNat l (atM m) x.toNat y.toNat) = false → k = 0 ∧ f = 5) ∧
  (codeXC n m l.length x y = 0 → sub r (closeX n.toNat l (atM m) x.toNat y.toNat) = true → f = 0 ∧ ∃ t : Nat, k = t ∧ t ≤ lastX n.toNat l (atM m) ∧
    sub r (iterX n.toNat l (atM m) t x.toNat y.toNat) = true ∧ ∀ s, s < t → sub r (iterX n.toNat l (atM m) s x.toNat y.toNat) = false)
/-- The contract of Steps. -/
def RtStepsOk (fn : Nat) : Prop :=
  ∀ (n : Int) (m : Mat) (A : Option Addr) (c : Nat) (l : List Chn) (A2 : Option Addr) (c2 : Nat) (x y : Int) (r : Nat) (w : World),
    m.length ≤ maxLen → m.length ≤ c → Mats w A m → l.length ≤ maxLen → l.length ≤ c2 → C32 l → Row w A2 (chnsC l) → r < 4294967296 → Laid w →
    Calls Try.prog fn #[.int .i64 n, .slice A m.length c, .slice A2 l.length c2, .int .i64 x, .int .i64 y, .int .u32 (r : Int)] w fun e w' => ∃ k f : Int,
      e = .returned (.tuple #[.int .i64 k, .int .i64 f]) ∧ StepR n m l x y r k f ∧ Below w.heap.size w w'

end Go.Proofs.Ythgmbiaajgpaaaa
