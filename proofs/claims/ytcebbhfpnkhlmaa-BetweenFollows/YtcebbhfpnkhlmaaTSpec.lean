/- What the functions of package truth are to answer. -/
import Derived.Test.YtcebbhfpnkhlmaaWT4
import Derived.Test.YtcebbhfpnkhlmaaExt
namespace Go.Proofs.Ytcebbhfpnkhlmaa
open Go.RowKit

/-- The contract of Dual. -/
def TDualOk (fn : Nat) : Prop :=
  ∀ (n : Int) (f : List Bool) (A : Option Addr) (c : Nat) (w : World), f.length ≤ maxLen → Row w A (boolsC f) → Laid w →
    Calls Try.prog fn #[.int .i64 n, .slice A f.length c] w fun e w' => ∃ (A2 : Option Addr) (c2 : Nat) (l : List Bool), e = .returned (.tuple #[.slice A2 l.length c2, .int .i64 (codeT n f.length)]) ∧ l = (if codeT n f.length = 0 then tabB (one n.toNat) (dualF n.toNat (atB f)) else []) ∧ Row w' A2 (boolsC l) ∧ Below w.heap.size w w'
/-- The contract of Sums. -/
def TSumsOk (fn : Nat) : Prop :=
  ∀ (n : Int) (f : List Bool) (A : Option Addr) (c : Nat) (w : World), f.length ≤ maxLen → Row w A (boolsC f) → Laid w →
    Calls Try.prog fn #[.int .i64 n, .slice A f.length c] w fun e w' => ∃ (A2 : Option Addr) (c2 : Nat) (l : List Bool), e = .returned (.tuple #[.slice A2 l.length c2, .int .i64 (codeT n f.length)]) ∧ l = (if codeT n f.length = 0 then tabB (one n.toNat) (mob n.toNat (atB f)) else []) ∧ Row w' A2 (boolsC l) ∧ Below w.heap.size w w'
/-- The contract of Class. -/
def TClassOk (fn : Nat) : Prop :=
  ∀ (n : Int) (f : List Bool) (A : Option Addr) (c : Nat) (w : World), f.length ≤ maxLen → Row w A (boolsC f) → Laid w →
    Calls Try.prog fn #[.int .i64 n, .slice A f.length c] w fun e w' => e = .returned (.tuple #[.int .u32 (if codeT n f.length = 0 then classF n.toNat (atB f) else 0 : Nat), .int .i64 (codeT n f.length)]) ∧ Below w.heap.size w w'
/-- The contract of Primes. -/
def TPrimesOk (fn : Nat) : Prop :=
  ∀ (n : Int) (f : List Bool) (A : Option Addr) (c : Nat) (w : World), f.length ≤ maxLen → Row w A (boolsC f) → Laid w →
    Calls Try.prog fn #[.int .i64 n, .slice A f.length c] w fun e w' => ∃ (A2 : Option Addr) (c2 : Nat) (l : List (Nat × Nat)), e = .returned (.tuple #[.slice A2 l.length c2, .int .i64 (codeT n f.length)]) ∧ l = (if codeT n f.length = 0 then primL n.toNat (atB f) (one n.toNat) else []) ∧ l.length ≤ c2 ∧ Row w' A2 (rulesC l) ∧ Below w.heap.size w w'
/-- A list of tables, as it lies. -/
def Tabs (w : World) (A : Option Addr) (fs : List (List Bool)) : Prop :=
  ∃ cs : List Value, cs.length = fs.length ∧ Row w A cs ∧ ∀ (i : Nat) (f : List Bool), fs[i]? = some f → f.length ≤ maxLen ∧ ∃ (B : Option Addr) (d : Nat), cs[i]? = some (.slice B f.length d) ∧ Row w B (boolsC f)
theorem Tabs.below {w w' : World} {A : Option Addr} {fs : List (List Bool)} (h : Tabs w A fs) (hb : Below w.heap.size w w') : Tabs w' A fs := by
  obtain ⟨cs, h1, h2, h3⟩ := h
  refine ⟨cs, h1, h2.below hb, fun i f hf => ?_⟩
  obtain ⟨k1, B, d, k2, k3⟩ := h3 i f hf
  exact ⟨k1, B, d, k2, k3.below hb⟩
theorem Tabs.at {w : World} {A : Option Addr} {fs : List (List Bool)} (h : Tabs w A fs) {i : Nat} {f : List Bool} (hf : fs[i]? = some f) :
    f.length ≤ maxLen ∧ ∃ b off B d, A = some ⟨b, off, none⟩ ∧ w.cell? ⟨b, off + i, none⟩ = some (.slice B f.length d) ∧ Row w B (boolsC f) := by
  obtain ⟨cs, h1, h2, h3⟩ := h
  obtain ⟨k1, B, d, k2, k3⟩ := h3 i f hf
  obtain ⟨b, off, rfl, hc⟩ := h2.at (k := i) (List.getElem?_eq_some_iff.1 k2).1
  exact ⟨k1, b, off, B, d, rfl, hc i _ k2, k3⟩
def LargeW (n : Int) (k : Nat) : Prop := n < 0 ∨ 4 < n ∨ 10 < k
open Classical in
/-- The code of Whole. -/
noncomputable def codeW (n : Int) (fs : List (List Bool)) : Int := if LargeW n fs.length then 1 else if ∀ f ∈ fs, f.length = one n.toNat then 0 else 3
theorem codeW_large {n : Int} {fs : List (List Bool)} (h : LargeW n fs.length) : codeW n fs = 1 := by simp [codeW, h]
theorem codeW_ok {n : Int} {fs : List (List Bool)} (h : ¬ LargeW n fs.length) (h2 : ∀ f ∈ fs, f.length = one n.toNat) : codeW n fs = 0 := by rw [codeW, if_neg h, if_pos h2]
theorem codeW_bad {n : Int} {fs : List (List Bool)} (h : ¬ LargeW n fs.length) (h2 : ¬ ∀ f ∈ fs, f.length = one n.toNat) : codeW n fs = 3 := by rw [codeW, if_neg h, if_neg h2]
/-- What all of the first k have. -/
def allC (n : Nat) (fs : List (List Bool)) (k : Nat) : Nat := (fs.take k).foldl (fun a f => a &&& classF n (atB f)) 31
theorem allC_succ {n : Nat} {fs : List (List Bool)} {k : Nat} {f : List Bool} (h : fs[k]? = some f) : allC n fs (k + 1) = allC n fs k &&& classF n (atB f) := by
  unfold allC
  rw [List.take_add_one, h, List.foldl_append]
  rfl
theorem allC_lt (n : Nat) (fs : List (List Bool)) (k : Nat) : allC n fs k < 32 := by
  unfold allC
  have : ∀ (l : List (List Bool)) (a : Nat), a < 32 → l.foldl (fun a f => a &&& classF n (atB f)) a < 32 := by
    intro l
    induction l with
    | nil => intro a h; exact h
    | cons f l ih => intro a h; exact ih _ (Nat.lt_of_le_of_lt Nat.and_le_left h)
  exact this _ _ (by decide)
/-- The contract of Whole. -/
def TWholeOk (fn : Nat) : Prop :=
  ∀ (n : Int) (fs : List (List Bool)) (A : Option Addr) (c : Nat) (w : World), fs.length ≤ maxLen → Tabs w A fs → Laid w →
    Calls Try.prog fn #[.int .i64 n, .slice A fs.length c] w fun e w' => e = .returned (.tuple #[.bool (codeW n fs == 0 && allC n.toNat fs fs.length == 0), .int .i64 (codeW n fs)]) ∧ Below w.heap.size w w'

end Go.Proofs.Ytcebbhfpnkhlmaa
