/- Plain mathematics of lines: what can come next. -/
import Derived.Test.YtmlggmopkelcfaaDoorW7
import Derived.Test.YtmlggmopkelcfaaDoorHasse
namespace Go.Proofs.YtmlggmopkelcfaaDoor
open Go.RowKit

/-- Things as numbers of Go. -/
def nats (l : List Nat) : List Int := l.map fun x : Nat => (x : Int)
@[simp] theorem nats_length (l : List Nat) : (nats l).length = l.length := by simp [nats]
theorem nats_append (l r : List Nat) : nats (l ++ r) = nats l ++ nats r := by simp [nats]
theorem mem_nats {l : List Nat} {x : Nat} : (x : Int) ∈ nats l ↔ x ∈ l := by
  unfold nats
  rw [List.mem_map]
  constructor
  · rintro ⟨y, hy, e⟩
    obtain rfl : y = x := by omega
    exact hy
  · intro h; exact ⟨x, h, rfl⟩
theorem nats_at {l : List Nat} {k x : Nat} (h : l[k]? = some x) : (nats l)[k]? = some (x : Int) := by simp [nats, h]

/-- May i come next, behind l, by the first j things? -/
noncomputable def rdyTo (ps : List (Int × Int)) (l : List Nat) (i : Nat) : Nat → Bool
  | 0 => !decide (i ∈ l)
  | j + 1 => rdyTo ps l i j && (decide (j = i) || !under ps j i || decide (j ∈ l))
theorem rdyTo_iff {ps : List (Int × Int)} {l : List Nat} {i n : Nat} : rdyTo ps l i n = true ↔ (¬ i ∈ l ∧ ∀ j : Nat, j < n → j ≠ i → under ps j i = true → j ∈ l) := by
  induction n with
  | zero => simp [rdyTo]
  | succ n ih =>
    rw [rdyTo, Bool.and_eq_true, ih]
    constructor
    · rintro ⟨⟨h1, h2⟩, h3⟩
      refine ⟨h1, fun j hj hne hu => ?_⟩
      by_cases e : j = n
      · subst e
        rw [hu] at h3
        simp [hne] at h3
        exact h3
      · exact h2 j (by omega) hne hu
    · rintro ⟨h1, h2⟩
      refine ⟨⟨h1, fun j hj => h2 j (by omega)⟩, ?_⟩
      by_cases e : n = i
      · simp [e]
      · cases hu : under ps n i with
        | false => simp
        | true => simp [h2 n (by omega) e hu]

/-- The first number below n that p lets in. -/
def IsFirst (p : Nat → Bool) (n i : Nat) : Prop := i < n ∧ p i = true ∧ ∀ j, j < i → p j = false
theorem IsFirst.same {p : Nat → Bool} {n i j : Nat} (h : IsFirst p n i) (k : IsFirst p n j) : i = j := by
  rcases Nat.lt_trichotomy i j with h1 | h1 | h1
  · have := k.2.2 i h1; rw [h.2.1] at this; cases this
  · exact h1
  · have := h.2.2 j h1; rw [k.2.1] at this; cases this
theorem exists_first {p : Nat → Bool} {n : Nat} : ∀ (i : Nat), i < n → p i = true → ∃ j, IsFirst p n j := by
  intro i
  induction i using Nat.strongRecOn with
  | _ i ih =>
    intro hi hp
    by_cases h : ∃ j, j < i ∧ p j = true
    · obtain ⟨j, hj, hpj⟩ := h
      exact ih j hj (by omega) hpj
    · refine ⟨i, hi, hp, fun j hj => ?_⟩
      cases e : p j with
      | false => rfl
      | true => exact absurd ⟨j, hj, e⟩ h

/-- Things that are not in l and below a. -/
noncomputable def cntOut (n : Nat) (ps : List (Int × Int)) (l : List Nat) (a : Nat) : Nat := ((List.range n).filter fun c : Nat => !decide (c ∈ l) && under ps c a).length

theorem ready_aux {n : Nat} {ps : List (Int × Int)} (hc : ¬ Cyc n ps) (l : List Nat) : ∀ (m a : Nat), a < n → ¬ a ∈ l → cntOut n ps l a ≤ m → ∃ i, i < n ∧ rdyTo ps l i n = true
  | 0, a, ha, hal, hm => by
    exfalso
    have : a ∈ (List.range n).filter fun c : Nat => !decide (c ∈ l) && under ps c a := by
      rw [List.mem_filter]; simp [ha, hal, under_iff.2 (Reach.refl ps a)]
    have := List.length_pos_of_mem this
    unfold cntOut at hm
    omega
  | m + 1, a, ha, hal, hm => by
    by_cases h : ∃ j : Nat, j < n ∧ j ≠ a ∧ under ps j a = true ∧ ¬ j ∈ l
    · obtain ⟨j, hj, hja, hu, hjl⟩ := h
      have : cntOut n ps l j < cntOut n ps l a := by
        refine filter_lt (fun x _ hx => ?_) ⟨a, by simpa using ha, ?_, ?_⟩
        · rw [Bool.and_eq_true] at hx ⊢
          exact ⟨hx.1, under_iff.2 ((under_iff.1 hx.2).trans (under_iff.1 hu))⟩
        · simp [hal, under_iff.2 (Reach.refl ps a)]
        · cases h5 : under ps a j with
          | false => simp
          | true =>
            exfalso
            rcases Nat.lt_or_ge j a with h3 | h3
            · exact hc (cyc_of h3 ha h5 hu)
            · exact hc (cyc_of (by omega) hj hu h5)
      exact ready_aux hc l m j hj hjl (by omega)
    · refine ⟨a, ha, rdyTo_iff.2 ⟨hal, fun j hj hne hu => ?_⟩⟩
      apply Classical.byContradiction
      exact fun hn => h ⟨j, hj, hne, hu, hn⟩

theorem exists_ready {n : Nat} {ps : List (Int × Int)} (hc : ¬ Cyc n ps) {l : List Nat} (hl : l.length < n) : ∃ i, IsFirst (fun i => rdyTo ps l i n) n i := by
  have : ∃ a, a < n ∧ ¬ a ∈ l := by
    apply Classical.byContradiction
    intro h
    have := nodup_sub_length (List.range n) l List.nodup_range (fun x hx => by
      apply Classical.byContradiction
      exact fun hn => h ⟨x, by simpa using hx, hn⟩)
    simp at this
    omega
  obtain ⟨a, ha, hal⟩ := this
  obtain ⟨i, hi, hr⟩ := ready_aux hc l _ a ha hal (Nat.le_refl _)
  exact exists_first i hi hr

open Classical in
/-- What comes next behind l. -/
noncomputable def nxt (n : Nat) (ps : List (Int × Int)) (l : List Nat) : Nat := if h : ∃ i, IsFirst (fun i => rdyTo ps l i n) n i then Classical.choose h else 0
theorem nxt_first {n : Nat} {ps : List (Int × Int)} {l : List Nat} (h : ∃ i, IsFirst (fun i => rdyTo ps l i n) n i) : IsFirst (fun i => rdyTo ps l i n) n (nxt n ps l) := by
  unfold nxt; rw [dif_pos h]; exact Classical.choose_spec h

/-- The first k of the line. -/
noncomputable def lineL (n : Nat) (ps : List (Int × Int)) : Nat → List Nat
  | 0 => []
  | k + 1 => lineL n ps k ++ [nxt n ps (lineL n ps k)]
theorem lineL_length (n : Nat) (ps : List (Int × Int)) (k : Nat) : (lineL n ps k).length = k := by
  induction k with
  | zero => rfl
  | succ k ih => rw [lineL, List.length_append, ih]; rfl
theorem lineL_first {n : Nat} {ps : List (Int × Int)} (hc : ¬ Cyc n ps) {k : Nat} (hk : k < n) : IsFirst (fun i => rdyTo ps (lineL n ps k) i n) n (nxt n ps (lineL n ps k)) :=
  nxt_first (exists_ready hc (by rw [lineL_length]; exact hk))
theorem lineL_lt {n : Nat} {ps : List (Int × Int)} (hc : ¬ Cyc n ps) {k : Nat} (hk : k ≤ n) : ∀ x ∈ lineL n ps k, x < n := by
  induction k with
  | zero => simp [lineL]
  | succ k ih =>
    intro x hx
    rw [lineL, List.mem_append] at hx
    rcases hx with hx | hx
    · exact ih (by omega) x hx
    · simp at hx; subst hx; exact (lineL_first hc (by omega)).1
theorem lineL_nodup {n : Nat} {ps : List (Int × Int)} (hc : ¬ Cyc n ps) {k : Nat} (hk : k ≤ n) : (lineL n ps k).Nodup := by
  induction k with
  | zero => simp [lineL]
  | succ k ih =>
    rw [lineL, List.nodup_append]
    refine ⟨ih (by omega), by simp, fun x hx y hy => ?_⟩
    simp at hy; subst hy
    rintro rfl
    exact (rdyTo_iff.1 (lineL_first hc (by omega)).2.1).1 hx

/-- A set of things, as a word. -/
def setOf (n : Nat) (l : List Nat) : Nat := wordOf n fun i => decide (i ∈ l)
theorem setOf_nil (n : Nat) : setOf n [] = 0 := (wordOf_of (one_pos n) fun i _ => by simp).symm
theorem setOf_add {n : Nat} {l : List Nat} {x : Nat} (hx : x < n) : setOf n l ||| one x = setOf n (l ++ [x]) :=
  wordOf_of (or_lt_one (wordOf_lt _ _) (one_lt_one hx)) fun i hi => by
    rw [Nat.testBit_or, setOf, testBit_wordOf, one_testBit, Bool.eq_iff_iff]
    simp [hi]
    exact or_congr Iff.rfl eq_comm
theorem setOf_lt (n : Nat) (l : List Nat) : setOf n l < one n := wordOf_lt _ _
theorem setOf_testBit (n : Nat) (l : List Nat) (i : Nat) : (setOf n l).testBit i = (decide (i < n) && decide (i ∈ l)) := testBit_wordOf _ _ _

theorem testBit_not32 {y i : Nat} (hy : y < 4294967296) (hi : i < 32) : (4294967295 - y).testBit i = !y.testBit i := by
  have := Nat.testBit_two_pow_sub_succ (n := 32) (x := y) (by simpa using hy) i
  rw [show 2 ^ 32 - (y + 1) = 4294967295 - y from by omega] at this
  rw [this]
  simp [hi]

/-- The words tell what may come next. -/
theorem ready_words {n : Nat} {ps : List (Int × Int)} {l : List Nat} {a : Nat} (hn : n ≤ 6) (ha : a < n) : (rev n (upT n ps) a &&& (4294967295 - setOf n l) == one a) = rdyTo ps l a n := by
  have h64 := one_le_64 hn
  have hs : setOf n l < 4294967296 := by have := setOf_lt n l; omega
  have key : ∀ i, i < n → (rev n (upT n ps) a &&& (4294967295 - setOf n l)).testBit i = (under ps i a && !decide (i ∈ l)) := by
    intro i hi
    rw [Nat.testBit_and, rev_testBit, upT_testBit, testBit_not32 hs (by omega), setOf_testBit]
    simp [hi, ha]
  rw [Bool.eq_iff_iff, beq_iff_eq, rdyTo_iff]
  constructor
  · intro h
    have k2 : ∀ i, i < n → (under ps i a && !decide (i ∈ l)) = decide (a = i) := by
      intro i hi
      rw [← key i hi, h, one_testBit]
    refine ⟨?_, fun j hj hne hu => ?_⟩
    · have := k2 a ha
      simp at this
      exact this.2
    · have := k2 j hj
      rw [hu] at this
      simp [show ¬ a = j from fun e => hne e.symm] at this
      exact this
  · rintro ⟨h1, h2⟩
    refine word_ext (n := n) (and_lt_one (rev_lt _ _ _)) (one_lt_one ha) fun i hi => ?_
    rw [key i hi, one_testBit]
    by_cases e : a = i
    · subst e; simp [h1, under_iff.2 (Reach.refl ps a)]
    · cases hu : under ps i a with
      | false => simp [e]
      | true => simp [e, h2 i hi (fun e2 => e e2.symm) hu]

end Go.Proofs.YtmlggmopkelcfaaDoor
