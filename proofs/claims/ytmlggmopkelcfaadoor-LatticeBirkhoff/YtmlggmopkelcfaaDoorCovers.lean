/- Plain mathematics of covering pairs. -/
import Derived.Test.YtmlggmopkelcfaaDoorW7
namespace Go.Proofs.YtmlggmopkelcfaaDoor
open Go.RowKit

open Classical in
/-- Is b right above a? -/
noncomputable def covB (n : Nat) (ps : List (Int × Int)) (a b : Nat) : Bool :=
  decide (a ≠ b ∧ under ps a b = true ∧ ∀ c : Nat, c < n → c ≠ a → c ≠ b → ¬ (under ps a c = true ∧ under ps c b = true))

theorem covB_iff {n : Nat} {ps : List (Int × Int)} {a b : Nat} : covB n ps a b = true ↔ (a ≠ b ∧ under ps a b = true ∧ ∀ c : Nat, c < n → c ≠ a → c ≠ b → ¬ (under ps a c = true ∧ under ps c b = true)) := by
  unfold covB; rw [decide_eq_true_iff]
theorem covB_false {n : Nat} {ps : List (Int × Int)} {a b : Nat} (h : ¬ (a ≠ b ∧ under ps a b = true ∧ ∀ c : Nat, c < n → c ≠ a → c ≠ b → ¬ (under ps a c = true ∧ under ps c b = true))) : covB n ps a b = false := by
  cases h1 : covB n ps a b with
  | false => rfl
  | true => exact absurd (covB_iff.1 h1) h

/-- The words tell it. -/
theorem cov_words {n : Nat} {ps : List (Int × Int)} {a b : Nat} (ha : a < n) (hb : b < n) (hab : a ≠ b) : (upT n ps a &&& rev n (upT n ps) b == one a ||| one b) = covB n ps a b := by
  rw [Bool.eq_iff_iff, covB_iff, beq_iff_eq]
  constructor
  · intro h
    have key : ∀ i, i < n → (under ps a i && under ps i b) = (decide (a = i) || decide (b = i)) := by
      intro i hi
      have := congrArg (fun w => w.testBit i) h
      simp only [Nat.testBit_and, Nat.testBit_or, upT_testBit, rev_testBit, one_testBit] at this
      simpa [hi, hb] using this
    refine ⟨hab, ?_, fun c hc hca hcb h2 => ?_⟩
    · have := key a ha
      simp at this
      exact this.2
    · have := key c hc
      rw [h2.1, h2.2] at this
      simp at this
      omega
  · rintro ⟨_, hu, hno⟩
    refine word_ext (n := n) (and_lt_one (upT_lt _ _ _)) (or_lt_one (one_lt_one ha) (one_lt_one hb)) fun i hi => ?_
    simp only [Nat.testBit_and, Nat.testBit_or, upT_testBit, rev_testBit, one_testBit, hi, hb, decide_true, Bool.true_and]
    by_cases e1 : i = a
    · subst e1; simp [hu, under_iff.2 (Reach.refl ps i)]
    · by_cases e2 : i = b
      · subst e2; simp [hu, under_iff.2 (Reach.refl ps i)]
      · have := hno i hi e1 e2
        simp only [show ¬ a = i from fun e => e1 e.symm, show ¬ b = i from fun e => e2 e.symm, decide_false, Bool.or_false]
        cases h1 : under ps a i <;> cases h2 : under ps i b <;> simp_all

/-- The covering pairs of row x, of its first y. -/
noncomputable def rowL (n : Nat) (ps : List (Int × Int)) (x y : Nat) : List (Int × Int) := ((List.range y).filter fun z => covB n ps x z).map fun z : Nat => ((x : Int), (z : Int))
/-- The covering pairs of the first a rows, and of the first b of row a. -/
noncomputable def covL (n : Nat) (ps : List (Int × Int)) (a b : Nat) : List (Int × Int) := ((List.range a).flatMap fun x => rowL n ps x n) ++ rowL n ps a b

theorem rowL_succ (n : Nat) (ps : List (Int × Int)) (x y : Nat) : rowL n ps x (y + 1) = rowL n ps x y ++ (if covB n ps x y then [((x : Int), (y : Int))] else []) := by
  unfold rowL
  rw [List.range_succ, List.filter_append, List.map_append]
  cases h : covB n ps x y <;> simp [h]
theorem covL_succ (n : Nat) (ps : List (Int × Int)) (a b : Nat) : covL n ps a (b + 1) = covL n ps a b ++ (if covB n ps a b then [((a : Int), (b : Int))] else []) := by
  unfold covL; rw [rowL_succ, List.append_assoc]
theorem covL_yes {n : Nat} {ps : List (Int × Int)} {a b : Nat} (h : covB n ps a b = true) : covL n ps a (b + 1) = covL n ps a b ++ [((a : Int), (b : Int))] := by rw [covL_succ, h]; rfl
theorem covL_no {n : Nat} {ps : List (Int × Int)} {a b : Nat} (h : covB n ps a b = false) : covL n ps a (b + 1) = covL n ps a b := by rw [covL_succ, h]; simp
theorem covL_next (n : Nat) (ps : List (Int × Int)) (a : Nat) : covL n ps a n = covL n ps (a + 1) 0 := by
  unfold covL
  rw [List.range_succ, List.flatMap_append]
  simp [rowL]
theorem covL_zero (n : Nat) (ps : List (Int × Int)) : covL n ps 0 0 = [] := by simp [covL, rowL]
theorem covL_le (n : Nat) (ps : List (Int × Int)) (a b : Nat) (d : Nat) : ∃ r, covL n ps a (b + d) = covL n ps a b ++ r := by
  induction d with
  | zero => exact ⟨[], by simp⟩
  | succ d ih =>
    obtain ⟨r, hr⟩ := ih
    rw [← Nat.add_assoc, covL_succ, hr]
    exact ⟨_, List.append_assoc _ _ _⟩
theorem covL_up (n : Nat) (ps : List (Int × Int)) (a d : Nat) : ∃ r, covL n ps (a + d) 0 = covL n ps a 0 ++ r := by
  induction d with
  | zero => exact ⟨[], by simp⟩
  | succ d ih =>
    obtain ⟨r, hr⟩ := ih
    obtain ⟨r2, hr2⟩ := covL_le n ps (a + d) 0 n
    rw [← Nat.add_assoc, ← covL_next]
    rw [Nat.zero_add] at hr2
    rw [hr2, hr]
    exact ⟨_, List.append_assoc _ _ _⟩
/-- What has been gathered begins the whole. -/
theorem covL_all {n : Nat} (ps : List (Int × Int)) {a b : Nat} (ha : a < n) (hb : b ≤ n) : ∃ r, covL n ps n 0 = covL n ps a b ++ r := by
  obtain ⟨r1, h1⟩ := covL_le n ps a b (n - b)
  obtain ⟨r2, h2⟩ := covL_up n ps (a + 1) (n - (a + 1))
  rw [show b + (n - b) = n from by omega, covL_next] at h1
  rw [show a + 1 + (n - (a + 1)) = n from by omega, h1] at h2
  exact ⟨r1 ++ r2, by rw [h2, List.append_assoc]⟩
theorem covL_at {n : Nat} {ps : List (Int × Int)} {a b : Nat} (ha : a < n) (hb : b < n) (h : covB n ps a b = true) : (covL n ps n 0)[(covL n ps a b).length]? = some ((a : Int), (b : Int)) := by
  obtain ⟨r, hr⟩ := covL_all ps ha (show b + 1 ≤ n by omega)
  rw [hr, covL_yes h]
  simp
theorem rowL_len (n : Nat) (ps : List (Int × Int)) (x y : Nat) : (rowL n ps x y).length ≤ y := by
  unfold rowL
  rw [List.length_map]
  exact Nat.le_trans (List.length_filter_le _ _) (by simp)
theorem covL_len (n : Nat) (ps : List (Int × Int)) (a b : Nat) : (covL n ps a b).length ≤ a * n + b := by
  unfold covL
  rw [List.length_append]
  have h1 := rowL_len n ps a b
  have h2 : ((List.range a).flatMap fun x => rowL n ps x n).length ≤ a * n := by
    induction a with
    | zero => simp
    | succ a ih =>
      rw [List.range_succ, List.flatMap_append, List.length_append]
      have := ih (rowL_len n ps a b)
      have h3 := rowL_len n ps a n
      have h4 : (a + 1) * n = a * n + n := by rw [Nat.add_mul, Nat.one_mul]
      simp only [List.flatMap_cons, List.flatMap_nil, List.append_nil]
      omega
  omega

/-- What has been looked at between. -/
def Betw (ps : List (Int × Int)) (a b c : Nat) : Prop := ∀ d : Nat, d < c → d ≠ a → d ≠ b → ¬ (under ps a d = true ∧ under ps d b = true)
theorem Betw.step {ps : List (Int × Int)} {a b c : Nat} (h : Betw ps a b c) (hn : c ≠ a → c ≠ b → ¬ (under ps a c = true ∧ under ps c b = true)) : Betw ps a b (c + 1) := by
  intro d hd
  by_cases e : d = c
  · subst e; exact hn
  · exact h d (by omega)

end Go.Proofs.YtmlggmopkelcfaaDoor
