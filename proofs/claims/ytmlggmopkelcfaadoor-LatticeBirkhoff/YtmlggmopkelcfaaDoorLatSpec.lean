/- What the functions on lattices are to answer. -/
import Derived.Test.YtmlggmopkelcfaaDoorLat
import Derived.Test.YtmlggmopkelcfaaDoorExt
namespace Go.Proofs.YtmlggmopkelcfaaDoor
open Go.RowKit

/-- Not both are things. -/
def Off (n a b : Int) : Prop := a < 0 ∨ n ≤ a ∨ b < 0 ∨ n ≤ b
open Classical in
noncomputable def bndC (f : Nat → List (Int × Int) → Nat → Nat → Int) (n : Int) (ps : List (Int × Int)) (a b : Int) : Int :=
  if code n ps ≠ 0 then code n ps else if Off n a b then 4 else if f n.toNat ps a.toNat b.toNat < 0 then 5 else 0
open Classical in
noncomputable def bndV (f : Nat → List (Int × Int) → Nat → Nat → Int) (n : Int) (ps : List (Int × Int)) (a b : Int) : Int :=
  if bndC f n ps a b = 0 then f n.toNat ps a.toNat b.toNat else 0
section
variable {f : Nat → List (Int × Int) → Nat → Nat → Int} {n : Int} {ps : List (Int × Int)} {a b : Int}
theorem bnd_err (h : code n ps ≠ 0) : bndC f n ps a b = code n ps ∧ bndV f n ps a b = 0 := by
  have : bndC f n ps a b = code n ps := by simp [bndC, h]
  exact ⟨this, by unfold bndV; rw [this, if_neg h]⟩
theorem bnd_off (h : code n ps = 0) (k : Off n a b) : bndC f n ps a b = 4 ∧ bndV f n ps a b = 0 := by
  have : bndC f n ps a b = 4 := by simp [bndC, h, k]
  exact ⟨this, by unfold bndV; rw [this]; rfl⟩
theorem bnd_none (h : code n ps = 0) (k : ¬ Off n a b) (l : f n.toNat ps a.toNat b.toNat < 0) : bndC f n ps a b = 5 ∧ bndV f n ps a b = 0 := by
  have : bndC f n ps a b = 5 := by simp [bndC, h, k, l]
  exact ⟨this, by unfold bndV; rw [this]; rfl⟩
theorem bnd_ok (h : code n ps = 0) (k : ¬ Off n a b) (l : ¬ f n.toNat ps a.toNat b.toNat < 0) : bndC f n ps a b = 0 ∧ bndV f n ps a b = f n.toNat ps a.toNat b.toNat := by
  have : bndC f n ps a b = 0 := by simp [bndC, h, k, l]
  exact ⟨this, by unfold bndV; rw [this, if_pos rfl]⟩
end
/-- The contract of Join and Meet. -/
def BndOk (fn : Nat) (f : Nat → List (Int × Int) → Nat → Nat → Int) : Prop :=
  ∀ (n : Int) (ps : List (Int × Int)) (A : Option Addr) (c : Nat) (a b : Int) (w : World), ps.length ≤ maxLen → Row w A (pairsC ps) → Laid w →
    Calls Tryd.prog fn #[.int .i64 n, .slice A ps.length c, .int .i64 a, .int .i64 b] w fun e w' => e = .returned (.tuple #[.int .i64 (bndV f n ps a b), .int .i64 (bndC f n ps a b)]) ∧ Below w.heap.size w w'
/-- The contract of Is. -/
def IsOk (fn : Nat) : Prop :=
  ∀ (n : Int) (ps : List (Int × Int)) (A : Option Addr) (c : Nat) (w : World), ps.length ≤ maxLen → Row w A (pairsC ps) → Laid w →
    Calls Tryd.prog fn #[.int .i64 n, .slice A ps.length c] w fun e w' => e = .returned (.tuple #[.bool (code n ps == 0 && latB n.toNat ps), .int .i64 (code n ps)]) ∧ Below w.heap.size w w'
/-- The contract of Shared and Modular. -/
def ShOk (fn : Nat) (all : Bool) : Prop :=
  ∀ (n : Int) (ps : List (Int × Int)) (A : Option Addr) (c : Nat) (w : World), ps.length ≤ maxLen → Row w A (pairsC ps) → Laid w →
    Calls Tryd.prog fn #[.int .i64 n, .slice A ps.length c] w fun e w' => e = .returned (.tuple #[.bool (codeL n ps == 0 && shB n.toNat ps all), .int .i64 (codeL n ps)]) ∧ Below w.heap.size w w'
/-- The contract of Irreducible. -/
def IrrOk (fn : Nat) : Prop :=
  ∀ (n : Int) (ps : List (Int × Int)) (A : Option Addr) (c : Nat) (w : World), ps.length ≤ maxLen → Row w A (pairsC ps) → Laid w →
    Calls Tryd.prog fn #[.int .i64 n, .slice A ps.length c] w fun e w' => e = .returned (.tuple #[.int .u32 (if codeL n ps = 0 then irrW n.toNat ps n.toNat else 0 : Nat), .int .i64 (codeL n ps)]) ∧ Below w.heap.size w w'

end Go.Proofs.YtmlggmopkelcfaaDoor
