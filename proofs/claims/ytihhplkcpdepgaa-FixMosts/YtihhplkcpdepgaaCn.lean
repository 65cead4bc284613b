/- Plain mathematics of contexts and concepts. -/
import Derived.Test.YtihhplkcpdepgaaRl
namespace Go.Proofs.Ytihhplkcpdepgaa
open Go.RowKit

/-- What all objects of o have. -/
def upW (n : Nat) (rows : List Nat) (o : Nat) : Nat := wordOf n fun m => (List.range rows.length).all fun i => !(o.testBit i) || (rows.getD i 0).testBit m
/-- Who has all marks of m. -/
def ownW (rows : List Nat) (m : Nat) : Nat := wordOf rows.length fun i => sub m (rows.getD i 0)
theorem upW_lt (n : Nat) (rows : List Nat) (o : Nat) : upW n rows o < one n := wordOf_lt _ _
theorem ownW_lt (rows : List Nat) (m : Nat) : ownW rows m < one rows.length := wordOf_lt _ _
theorem mem_up {n : Nat} {rows : List Nat} {o m : Nat} : (upW n rows o).testBit m = true ↔ m < n ∧ ∀ i, i < rows.length → o.testBit i = true → (rows.getD i 0).testBit m = true := by
  unfold upW
  rw [testBit_wordOf, Bool.and_eq_true, decide_eq_true_iff, List.all_eq_true]
  constructor
  · rintro ⟨h1, h2⟩
    refine ⟨h1, fun i hi ho => ?_⟩
    have := h2 i (List.mem_range.2 hi)
    rw [ho] at this
    simpa using this
  · rintro ⟨h1, h2⟩
    refine ⟨h1, fun i hi => ?_⟩
    cases ho : o.testBit i with
    | false => rfl
    | true => rw [h2 i (List.mem_range.1 hi) ho]; rfl
theorem mem_own {rows : List Nat} {m i : Nat} : (ownW rows m).testBit i = true ↔ i < rows.length ∧ sub m (rows.getD i 0) = true := by
  unfold ownW
  rw [testBit_wordOf, Bool.and_eq_true, decide_eq_true_iff]
/-- The rows are of n marks. -/
def FitT (n : Nat) (rows : List Nat) : Prop := ∀ r ∈ rows, r < one n
theorem FitT.at {n : Nat} {rows : List Nat} (h : FitT n rows) {i : Nat} (hi : i < rows.length) : rows.getD i 0 < one n := by
  rw [List.getD_eq_getElem?_getD, List.getElem?_eq_getElem hi]
  exact h _ (List.getElem_mem hi)
/-- Galois, Ore: the objects have the marks just if the marks are had by the objects. -/
theorem galois {n : Nat} {rows : List Nat} {o m : Nat} (ho : o < one rows.length) (hm : m < one n) : sub o (ownW rows m) = sub m (upW n rows o) := by
  rw [Bool.eq_iff_iff, sub_iff, sub_iff]
  constructor
  · intro h k hk
    refine mem_up.2 ⟨bit_lt hm hk, fun i hi hoi => ?_⟩
    exact sub_iff.1 (mem_own.1 (h i hoi)).2 k hk
  · intro h i hi
    refine mem_own.2 ⟨bit_lt ho hi, sub_iff.2 fun k hk => ?_⟩
    exact (mem_up.1 (h k hk)).2 i (bit_lt ho hi) hi
theorem up_zero (n : Nat) (rows : List Nat) : upW n rows 0 = full n :=
  word_ext (upW_lt _ _ _) (full_lt n) fun m hm => by
    rw [Bool.eq_iff_iff, mem_up, full_bit]
    simp [hm]
/-- The marks of a concept. -/
def conB (n : Nat) (rows : List Nat) (m : Nat) : Bool := upW n rows (ownW rows m) == m
/-- The closure of a set of marks. -/
def clM (n : Nat) (rows : List Nat) (m : Nat) : Nat := upW n rows (ownW rows m)
theorem clM_lt (n : Nat) (rows : List Nat) (m : Nat) : clM n rows m < one n := upW_lt _ _ _
theorem clM_sub {n : Nat} {rows : List Nat} {m : Nat} (hm : m < one n) : sub m (clM n rows m) = true := by
  unfold clM
  rw [← galois (ownW_lt rows m) hm]
  exact sub_refl _
theorem own_anti {rows : List Nat} {a b : Nat} (h : sub a b = true) : sub (ownW rows b) (ownW rows a) = true :=
  sub_iff.2 fun _ hi => mem_own.2 ⟨(mem_own.1 hi).1, sub_trans h (mem_own.1 hi).2⟩
theorem up_anti {n : Nat} {rows : List Nat} {a b : Nat} (h : sub a b = true) : sub (upW n rows b) (upW n rows a) = true :=
  sub_iff.2 fun _ hm => mem_up.2 ⟨(mem_up.1 hm).1, fun i hi ho => (mem_up.1 hm).2 i hi (sub_iff.1 h i ho)⟩
theorem clM_mono {n : Nat} {rows : List Nat} {a b : Nat} (h : sub a b = true) : sub (clM n rows a) (clM n rows b) = true := up_anti (own_anti h)
theorem clM_own {n : Nat} {rows : List Nat} {m : Nat} (hm : m < one n) : ownW rows (clM n rows m) = ownW rows m := by
  apply sub_anti
  · exact own_anti (clM_sub hm)
  · rw [galois (ownW_lt rows m) (clM_lt n rows m)]
    exact sub_refl _
theorem clM_con {n : Nat} {rows : List Nat} {m : Nat} (hm : m < one n) : conB n rows (clM n rows m) = true := by
  unfold conB
  rw [clM_own hm]
  exact beq_self_eq_true _
theorem con_iff {n : Nat} {rows : List Nat} {m : Nat} : conB n rows m = true ↔ clM n rows m = m := by unfold conB clM; rw [beq_iff_eq]

/-! ## The codes -/
def LargeT (n : Int) (rows : List Nat) : Prop := n < 1 ∨ 6 < n ∨ 8 < rows.length
open Classical in
noncomputable def codeT (n : Int) (rows : List Nat) (o m : Nat) : Int := if LargeT n rows then 1 else if FitT n.toNat rows ∧ m < one n.toNat ∧ o < one rows.length then 0 else 4
theorem codeT_large {n : Int} {rows : List Nat} {o m : Nat} (h : LargeT n rows) : codeT n rows o m = 1 := by simp [codeT, h]
theorem codeT_ok {n : Nat} {rows : List Nat} {o m : Nat} (h : ¬ LargeT n rows) (h2 : FitT n rows) (h3 : m < one n) (h4 : o < one rows.length) : codeT n rows o m = 0 := by simp [codeT, h, h2, h3, h4]
theorem codeT_bad {n : Nat} {rows : List Nat} {o m : Nat} (h : ¬ LargeT n rows) (h2 : ¬ (FitT n rows ∧ m < one n ∧ o < one rows.length)) : codeT n rows o m = 4 := by
  rw [codeT, if_neg h, if_neg]; exact h2
theorem codeT_zero {n : Int} {rows : List Nat} {o m : Nat} (h : codeT n rows o m = 0) : ∃ k : Nat, n = k ∧ 1 ≤ k ∧ k ≤ 6 ∧ rows.length ≤ 8 ∧ FitT k rows ∧ m < one k ∧ o < one rows.length := by
  by_cases h1 : LargeT n rows
  · rw [codeT_large h1] at h; omega
  · obtain ⟨k, rfl⟩ := Int.eq_ofNat_of_zero_le (show 0 ≤ n by unfold LargeT at h1; omega)
    by_cases h2 : FitT k rows ∧ m < one k ∧ o < one rows.length
    · refine ⟨k, rfl, ?_, ?_, ?_, h2.1, h2.2.1, h2.2.2⟩ <;> (unfold LargeT at h1; omega)
    · rw [codeT_bad h1 h2] at h; omega
theorem codeT_of {k : Nat} {rows : List Nat} {o m o' m' : Nat} (h : codeT k rows o m = 0) (hm : m' < one k) (ho : o' < one rows.length) : codeT k rows o' m' = 0 := by
  obtain ⟨k', e, h1, h2, h3, h4, _⟩ := codeT_zero h
  obtain rfl : k = k' := by omega
  exact codeT_ok (by unfold LargeT; omega) h4 hm ho

/-! ## The lectic order -/
open Classical in
/-- a stands behind b, by the first k things. -/
noncomputable def behP (k a b : Nat) : Bool := decide (∃ i, i < k ∧ a.testBit i = true ∧ b.testBit i = false ∧ ∀ j, j < i → a.testBit j = b.testBit j)
noncomputable def behB (a b : Nat) : Bool := behP 32 a b
theorem behP_iff {k a b : Nat} : behP k a b = true ↔ ∃ i, i < k ∧ a.testBit i = true ∧ b.testBit i = false ∧ ∀ j, j < i → a.testBit j = b.testBit j := by unfold behP; rw [decide_eq_true_iff]
/-- The first of the two things in which two words part decides. -/
theorem beh_at {k a b i : Nat} (hi : i < k) (hs : ∀ j, j < i → a.testBit j = b.testBit j) (hd : a.testBit i ≠ b.testBit i) : behP k a b = a.testBit i := by
  cases ha : a.testBit i with
  | true =>
    rw [behP_iff]
    refine ⟨i, hi, ha, ?_, hs⟩
    cases hb : b.testBit i with
    | false => rfl
    | true => exact absurd (ha.trans hb.symm) hd
  | false =>
    cases h : behP k a b with
    | false => rfl
    | true =>
      obtain ⟨m, _, h1, h2, h3⟩ := behP_iff.1 h
      exfalso
      rcases Nat.lt_trichotomy m i with hm | rfl | hm
      · rw [hs m hm, h2] at h1; cases h1
      · rw [ha] at h1; cases h1
      · exact hd (h3 i hm)
theorem beh_same {k a b : Nat} (hs : ∀ j, j < k → a.testBit j = b.testBit j) : behP k a b = false := by
  cases h : behP k a b with
  | false => rfl
  | true =>
    obtain ⟨m, hm, h1, h2, _⟩ := behP_iff.1 h
    rw [hs m hm, h2] at h1; cases h1
theorem beh_irrefl (a : Nat) : behB a a = false := beh_same fun _ _ => rfl
theorem beh_total {n a b : Nat} (hn : n ≤ 32) (ha : a < one n) (hb : b < one n) (h : a ≠ b) : behB a b = true ∨ behB b a = true := by
  have ex : ∃ i, a.testBit i ≠ b.testBit i := by
    apply Classical.byContradiction
    intro hno
    refine h (Nat.eq_of_testBit_eq fun i => ?_)
    apply Classical.byContradiction
    exact fun e => hno ⟨i, e⟩
  have least : ∃ i, a.testBit i ≠ b.testBit i ∧ ∀ j, j < i → a.testBit j = b.testBit j := by
    obtain ⟨i, hi⟩ := ex
    induction i using Nat.strongRecOn with
    | ind i ih =>
      by_cases hj : ∃ j, j < i ∧ a.testBit j ≠ b.testBit j
      · obtain ⟨j, h1, h2⟩ := hj; exact ih j h1 h2
      · refine ⟨i, hi, fun j hji => ?_⟩
        apply Classical.byContradiction
        exact fun e => hj ⟨j, hji, e⟩
  obtain ⟨i, hd, hs⟩ := least
  have hi : i < n := by
    rcases Nat.lt_or_ge i n with h1 | h1
    · exact h1
    · exact absurd ((lt_one_testBit ha h1).trans (lt_one_testBit hb h1).symm) hd
  cases h1 : a.testBit i with
  | true => left; unfold behB; rw [beh_at (show i < 32 by omega) hs hd]; exact h1
  | false =>
    right
    unfold behB
    rw [beh_at (show i < 32 by omega) (fun j hj => (hs j hj).symm) (fun e => hd e.symm)]
    cases h2 : b.testBit i with
    | true => rfl
    | false => exact absurd (h1.trans h2.symm) hd
theorem beh_trans {a b c : Nat} (h : behB a b = true) (k : behB b c = true) : behB a c = true := by
  obtain ⟨i, hi, h1, h2, h3⟩ := behP_iff.1 h
  obtain ⟨j, hj, k1, k2, k3⟩ := behP_iff.1 k
  rcases Nat.lt_trichotomy i j with hij | rfl | hij
  · exact behP_iff.2 ⟨i, hi, h1, (k3 i hij).symm.trans h2, fun m hm => (h3 m hm).trans (k3 m (by omega))⟩
  · rw [h2] at k1; cases k1
  · exact behP_iff.2 ⟨j, hj, (h3 j hij).trans k1, k2, fun m hm => (h3 m (by omega)).trans (k3 m hm)⟩
theorem beh_anti {a b : Nat} (h : behB a b = true) (k : behB b a = true) : False := by
  have := beh_trans h k
  rw [beh_irrefl] at this
  cases this

/-- All concepts, by their marks. -/
def conL (n : Nat) (rows : List Nat) (k : Nat) : List Nat := (List.range k).filter (conB n rows)
theorem mem_conL {n : Nat} {rows : List Nat} {k m : Nat} : m ∈ conL n rows k ↔ m < k ∧ conB n rows m = true := by unfold conL; rw [List.mem_filter, List.mem_range]
theorem conL_nodup (n : Nat) (rows : List Nat) (k : Nat) : (conL n rows k).Nodup := List.Pairwise.filter _ List.nodup_range
/-- s is the next concept behind m. -/
def IsNext (n : Nat) (rows : List Nat) (m s : Nat) : Prop := s < one n ∧ conB n rows s = true ∧ behB s m = true ∧ ∀ c, c < one n → conB n rows c = true → behB c m = true → c = s ∨ behB c s = true
theorem IsNext.unique {n : Nat} {rows : List Nat} {m s t : Nat} (h : IsNext n rows m s) (k : IsNext n rows m t) : s = t := by
  rcases h.2.2.2 t k.1 k.2.1 k.2.2.1 with e | e
  · exact e.symm
  · rcases k.2.2.2 s h.1 h.2.1 h.2.2.1 with e2 | e2
    · exact e2
    · exact (beh_anti e e2).elim
/-- There is no concept behind m. -/
def NoNext (n : Nat) (rows : List Nat) (m : Nat) : Prop := ∀ c, c < one n → conB n rows c = true → behB c m = false

end Go.Proofs.Ytihhplkcpdepgaa
