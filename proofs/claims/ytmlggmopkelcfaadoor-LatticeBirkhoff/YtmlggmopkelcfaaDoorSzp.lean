/- Plain mathematics: the line is an order that has all of the given one. -/
import Derived.Test.YtmlggmopkelcfaaDoorLines
namespace Go.Proofs.YtmlggmopkelcfaaDoor
open Go.RowKit

/-- The first k neighbours of a list. -/
def consTo (l : List Nat) : Nat → List (Int × Int)
  | 0 => []
  | k + 1 => consTo l k ++ [(((l.getD k 0 : Nat) : Int), ((l.getD (k + 1) 0 : Nat) : Int))]
theorem consTo_length (l : List Nat) (k : Nat) : (consTo l k).length = k := by
  induction k with
  | zero => rfl
  | succ k ih => rw [consTo, List.length_append, ih]; rfl
theorem mem_consTo {l : List Nat} {k : Nat} {p : Int × Int} : p ∈ consTo l k ↔ ∃ i, i < k ∧ p = (((l.getD i 0 : Nat) : Int), ((l.getD (i + 1) 0 : Nat) : Int)) := by
  induction k with
  | zero => simp [consTo]
  | succ k ih =>
    rw [consTo, List.mem_append, ih, List.mem_singleton]
    constructor
    · rintro (⟨i, hi, rfl⟩ | rfl)
      · exact ⟨i, by omega, rfl⟩
      · exact ⟨k, by omega, rfl⟩
    · rintro ⟨i, hi, rfl⟩
      by_cases e : i = k
      · subst e; exact .inr rfl
      · exact .inl ⟨i, by omega, rfl⟩

theorem getD_at {l : List Nat} {i : Nat} (h : i < l.length) : l[i]? = some (l.getD i 0) := by
  rw [List.getD_eq_getElem?_getD, List.getElem?_eq_getElem h]; rfl
theorem nodup_getD {l : List Nat} (hn : l.Nodup) {i j : Nat} (hi : i < l.length) (hj : j < l.length) (h : l.getD i 0 = l.getD j 0) : i = j := by
  have h1 := getD_at hi
  have h2 := getD_at hj
  rw [h, ← h2] at h1
  exact (List.getElem?_inj hi hn).1 h1

theorem cons_up {l : List Nat} {k : Nat} (i d : Nat) (h : i + d ≤ k) : Reach (consTo l k) (l.getD i 0 : Nat) (l.getD (i + d) 0 : Nat) := by
  induction d with
  | zero => exact Reach.refl _ _
  | succ d ih =>
    have := ih (by omega)
    exact this.step (p := (((l.getD (i + d) 0 : Nat) : Int), ((l.getD (i + d + 1) 0 : Nat) : Int))) (mem_consTo.2 ⟨i + d, by omega, rfl⟩)

theorem cons_inv {l : List Nat} (hn : l.Nodup) {k : Nat} (hk : k < l.length) {i : Nat} (hi : i < l.length) {y : Int} (h : Reach (consTo l k) (l.getD i 0 : Nat) y) : ∃ j, i ≤ j ∧ j < l.length ∧ y = (l.getD j 0 : Nat) := by
  refine h (fun z => ∃ j, i ≤ j ∧ j < l.length ∧ z = (l.getD j 0 : Nat)) ⟨i, Nat.le_refl _, hi, rfl⟩ ?_
  rintro p hp ⟨j, hj, hjl, he⟩
  obtain ⟨t, ht, rfl⟩ := mem_consTo.1 hp
  simp only at he ⊢
  have e : l.getD t 0 = l.getD j 0 := by omega
  obtain rfl := nodup_getD hn (by omega) hjl e
  exact ⟨t + 1, by omega, by omega, rfl⟩

/-- Each thing stands in a full list. -/
theorem full_mem {n : Nat} {l : List Nat} (hn : l.Nodup) (hl : l.length = n) (hlt : ∀ x ∈ l, x < n) {x : Nat} (hx : x < n) : x ∈ l := by
  apply Classical.byContradiction
  intro h
  have h1 : (x :: l).Nodup := List.nodup_cons.2 ⟨h, hn⟩
  have h2 := nodup_sub_length (x :: l) (List.range n) h1 (fun y hy => by
    rcases List.mem_cons.1 hy with rfl | hy
    · simpa using hx
    · simpa using hlt y hy)
  simp [hl] at h2
  omega

theorem lineL_take {n : Nat} {ps : List (Int × Int)} {k : Nat} (d : Nat) : ∃ r, lineL n ps (k + d) = lineL n ps k ++ r := by
  induction d with
  | zero => exact ⟨[], by simp⟩
  | succ d ih =>
    obtain ⟨r, hr⟩ := ih
    rw [← Nat.add_assoc, lineL, hr]
    exact ⟨_, List.append_assoc _ _ _⟩
theorem lineL_get {n : Nat} {ps : List (Int × Int)} {k m : Nat} (h : k < m) : (lineL n ps m)[k]? = some (nxt n ps (lineL n ps k)) := by
  obtain ⟨r, hr⟩ := lineL_take (n := n) (ps := ps) (k := k + 1) (m - (k + 1))
  rw [show k + 1 + (m - (k + 1)) = m from by omega] at hr
  rw [hr, lineL, List.append_assoc, List.getElem?_append_right (by rw [lineL_length]; exact Nat.le_refl _), lineL_length]
  simp

/-- What is below another one stands ahead of it. -/
theorem line_before {n : Nat} {ps : List (Int × Int)} (hc : ¬ Cyc n ps) {i j : Nat} (hi : i < n) (hj : j < n) (h : (lineL n ps n).getD i 0 ≠ (lineL n ps n).getD j 0) (hu : under ps ((lineL n ps n).getD i 0 : Nat) ((lineL n ps n).getD j 0 : Nat) = true) : i < j := by
  have hl := lineL_length n ps n
  have ej := getD_at (l := lineL n ps n) (i := j) (by omega)
  rw [lineL_get hj] at ej
  injection ej with ej
  have hr := (rdyTo_iff.1 (lineL_first hc hj).2.1).2
  have hlt : (lineL n ps n).getD i 0 < n := lineL_lt hc (Nat.le_refl _) _ (List.mem_of_getElem? (getD_at (by omega)))
  have := hr ((lineL n ps n).getD i 0) hlt (by rw [ej]; exact h) (by rw [ej]; exact hu)
  obtain ⟨t, ht⟩ := List.mem_iff_getElem?.1 this
  have htj : t < j := by
    have := (List.getElem?_eq_some_iff.1 ht).1
    rw [lineL_length] at this
    exact this
  obtain ⟨r, hr2⟩ := lineL_take (n := n) (ps := ps) (k := j) (n - j)
  rw [show j + (n - j) = n from by omega] at hr2
  have h3 : (lineL n ps n)[t]? = some ((lineL n ps n).getD i 0) := by
    rw [hr2, List.getElem?_append_left (by rw [lineL_length]; exact htj), ← hr2]
    exact ht
  have h4 := getD_at (l := lineL n ps n) (i := t) (by omega)
  rw [h3] at h4
  injection h4 with h4
  obtain rfl := nodup_getD (lineL_nodup hc (Nat.le_refl n)) (by omega) (by omega) h4
  exact htj

/-- The line, taken as a chain. -/
noncomputable def lineP (n : Nat) (ps : List (Int × Int)) : List (Int × Int) := consTo (lineL n ps n) (n - 1)

theorem lineP_code {n : Nat} {ps : List (Int × Int)} (h : code n ps = 0) : code n (lineP n ps) = 0 := by
  obtain ⟨h2, _, h4⟩ := code_zero h
  have hn : 1 ≤ n ∧ n ≤ 6 := by unfold Large at h2; omega
  have hl := lineL_length n ps n
  have hnd := lineL_nodup h4 (Nat.le_refl n)
  have hlt := lineL_lt h4 (Nat.le_refl n)
  refine code_ok ?_ ?_ ?_
  · unfold Large lineP
    rw [consTo_length]
    omega
  · intro p hp
    obtain ⟨i, hi, rfl⟩ := mem_consTo.1 hp
    have a1 := hlt _ (List.mem_of_getElem? (getD_at (l := lineL n ps n) (i := i) (by omega)))
    have a2 := hlt _ (List.mem_of_getElem? (getD_at (l := lineL n ps n) (i := i + 1) (by omega)))
    exact ⟨by simp only; omega, by simp only; omega, by simp only; omega, by simp only; omega⟩
  · rintro ⟨x, y, hy, hyx, hx, r1, r2⟩
    obtain ⟨a, rfl⟩ := Int.eq_ofNat_of_zero_le (show 0 ≤ x by omega)
    obtain ⟨b, rfl⟩ := Int.eq_ofNat_of_zero_le hy
    obtain ⟨i, hi⟩ := List.mem_iff_getElem?.1 (full_mem hnd hl hlt (show a < n by omega))
    obtain ⟨j, hj⟩ := List.mem_iff_getElem?.1 (full_mem hnd hl hlt (show b < n by omega))
    have hil := (List.getElem?_eq_some_iff.1 hi).1
    have hjl := (List.getElem?_eq_some_iff.1 hj).1
    have ei : (lineL n ps n).getD i 0 = a := by have := getD_at hil; rw [hi] at this; injection this with this; exact this.symm
    have ej : (lineL n ps n).getD j 0 = b := by have := getD_at hjl; rw [hj] at this; injection this with this; exact this.symm
    rw [← ei] at r1
    rw [← ej] at r2
    obtain ⟨j', h5, h6, h7⟩ := cons_inv hnd (by omega) hil r1
    obtain ⟨i', h8, h9, h10⟩ := cons_inv hnd (by omega) hjl r2
    have e1 : (lineL n ps n).getD j' 0 = (lineL n ps n).getD j 0 := by omega
    have e2 : (lineL n ps n).getD i' 0 = (lineL n ps n).getD i 0 := by omega
    obtain rfl := nodup_getD hnd h6 hjl e1
    obtain rfl := nodup_getD hnd h9 hil e2
    obtain rfl : i' = j' := by omega
    omega

theorem lineP_has {n : Nat} {ps : List (Int × Int)} (h4 : ¬ Cyc n ps) {a b : Nat} (ha : a < n) (hb : b < n) (hu : under ps a b = true) : under (lineP n ps) a b = true := by
  have hl := lineL_length n ps n
  have hnd := lineL_nodup h4 (Nat.le_refl n)
  have hlt := lineL_lt h4 (Nat.le_refl n)
  obtain ⟨i, hi⟩ := List.mem_iff_getElem?.1 (full_mem hnd hl hlt ha)
  obtain ⟨j, hj⟩ := List.mem_iff_getElem?.1 (full_mem hnd hl hlt hb)
  have hil := (List.getElem?_eq_some_iff.1 hi).1
  have hjl := (List.getElem?_eq_some_iff.1 hj).1
  have ei : (lineL n ps n).getD i 0 = a := by have := getD_at hil; rw [hi] at this; injection this with this; exact this.symm
  have ej : (lineL n ps n).getD j 0 = b := by have := getD_at hjl; rw [hj] at this; injection this with this; exact this.symm
  by_cases e : a = b
  · subst e; exact under_iff.2 (Reach.refl _ _)
  · have hij : i < j := line_before h4 (by omega) (by omega) (by rw [ei, ej]; exact e) (by rw [ei, ej]; exact hu)
    have := cons_up (l := lineL n ps n) (k := n - 1) i (j - i) (by omega)
    rw [show i + (j - i) = j from by omega, ei, ej] at this
    exact under_iff.2 this

theorem lineP_in {n : Nat} {ps : List (Int × Int)} (h4 : ¬ Cyc n ps) {a : Nat} (ha : a < n) : (upT n ps a ||| upT n (lineP n ps) a == upT n (lineP n ps) a) = true := by
  rw [beq_iff_eq]
  refine word_ext (n := n) (or_lt_one (upT_lt _ _ _) (upT_lt _ _ _)) (upT_lt _ _ _) fun b hb => ?_
  rw [Nat.testBit_or, upT_testBit, upT_testBit]
  cases hu : under ps a b with
  | false => simp
  | true => simp [hb, lineP_has h4 ha hb hu]

end Go.Proofs.YtmlggmopkelcfaaDoor
