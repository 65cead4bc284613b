/- Matrices of rights: the rounds end. -/
import Derived.Test.YthgmbiaajgpaaaaMx
import Derived.Test.YthgmbiaajgpaaaaMk
namespace Go.Proofs.Ythgmbiaajgpaaaa
open Go.RowKit

theorem bitSum_le' {k a b : Nat} (h : ∀ i, a.testBit i = true → b.testBit i = true) : bitSum k a ≤ bitSum k b := by
  induction k with
  | zero => simp [bitSum]
  | succ k ih =>
    have := h k
    rw [bitSum, bitSum]
    cases ha : a.testBit k with
    | false => simp; omega
    | true => rw [h k ha]; simp; omega
theorem bitSum_lt' {k a b i : Nat} (h : ∀ i, a.testBit i = true → b.testBit i = true) (hi : i < k) (ha : a.testBit i = false) (hb : b.testBit i = true) : bitSum k a < bitSum k b := by
  induction k with
  | zero => omega
  | succ k ih =>
    rw [bitSum, bitSum]
    by_cases e : i = k
    · subst e
      have := bitSum_le' (k := i) h
      rw [ha, hb]
      simp
      omega
    · have := ih (by omega)
      cases hk : a.testBit k with
      | false => simp; omega
      | true => rw [h k hk]; simp; omega
theorem pop_lt {a b : Nat} (h : sub a b = true) (hne : a ≠ b) (hb : b < 4294967296) : pop a < pop b := by
  have hs := sub_iff.1 h
  have : ∃ i, a.testBit i = false ∧ b.testBit i = true := by
    refine Classical.byContradiction fun k => hne (Nat.eq_of_testBit_eq fun i => ?_)
    cases ha : a.testBit i with
    | true => rw [hs i ha]
    | false =>
      cases hbi : b.testBit i with
      | false => rfl
      | true => exact absurd ⟨i, ha, hbi⟩ k
  obtain ⟨i, h1, h2⟩ := this
  have hi : i < 32 := by
    refine Classical.byContradiction fun k => ?_
    have := Nat.testBit_lt_two_pow (Nat.lt_of_lt_of_le hb (Nat.pow_le_pow_right (by decide : 2 > 0) (by omega : 32 ≤ i)))
    rw [this] at h2
    cases h2
  exact bitSum_lt' hs hi h1 h2
theorem gap_lt {n : Nat} {l : List Chn} {F : Nat → Nat → Nat} (hF : U2 F) (hc : C32 l) (h : ¬ ClosedX n l F) : gapX n (roundX n l F) < gapX n F := by
  have : ∃ i j, i < n ∧ j < n ∧ roundX n l F i j ≠ F i j := by
    refine Classical.byContradiction fun k => h fun i j hi hj => ?_
    refine Classical.byContradiction fun e => k ⟨i, j, hi, hj, e⟩
  obtain ⟨i, j, hi, hj, hne⟩ := this
  have hle := le_round n l F
  have hu := roundX_u32 (n := n) hF hc
  have cell : ∀ i j, i < n → j < n → 32 - pop (roundX n l F i j) ≤ 32 - pop (F i j) := fun i j hi hj => by
    have := bitSum_le' (k := 32) (sub_iff.1 (hle i j hi hj))
    unfold pop
    omega
  have hl : 32 - pop (roundX n l F i j) < 32 - pop (F i j) := by
    have h1 := pop_lt (hle i j hi hj) (fun e => hne e.symm) (hu i j)
    have h2 := pop_le (roundX n l F i j)
    omega
  unfold gapX
  exact sum_lt (f := fun i => ((List.range n).map fun j => 32 - pop (roundX n l F i j)).sum) (g := fun i => ((List.range n).map fun j => 32 - pop (F i j)).sum) (fun a ha => sum_le fun b hb => cell a b (List.mem_range.1 ha) (List.mem_range.1 hb)) (List.mem_range.2 hi)
    (sum_lt (f := fun j => 32 - pop (roundX n l F i j)) (g := fun j => 32 - pop (F i j)) (fun b hb => cell i b hi (List.mem_range.1 hb)) (List.mem_range.2 hj) hl)
theorem sum_bound {α : Type} {xs : List α} {f : α → Nat} {m : Nat} (h : ∀ x ∈ xs, f x ≤ m) : (xs.map f).sum ≤ xs.length * m := by
  induction xs with
  | nil => simp
  | cons x xs ih =>
    have h1 := h x (by simp)
    have h2 := ih fun y hy => h y (List.mem_cons_of_mem _ hy)
    rw [List.map_cons, List.sum_cons, List.length_cons, Nat.succ_mul]
    omega
theorem gap_le {n : Nat} (hn : n ≤ 6) (F : Nat → Nat → Nat) : gapX n F ≤ 1152 := by
  have h1 : gapX n F ≤ (List.range n).length * (n * 32) := sum_bound fun i _ => by
    have := sum_bound (xs := List.range n) (f := fun j => 32 - pop (F i j)) (m := 32) fun j _ => by omega
    rw [List.length_range] at this
    exact this
  rw [List.length_range] at h1
  have h2 : n * (n * 32) ≤ 6 * (6 * 32) := Nat.mul_le_mul hn (by omega)
  omega
theorem ends_by (n : Nat) (l : List Chn) (hc : C32 l) : ∀ (g : Nat) (F : Nat → Nat → Nat), U2 F → gapX n F ≤ g → ∃ t, t ≤ g ∧ ClosedX n l (iterX n l F t) := by
  intro g
  induction g with
  | zero =>
    intro F hF hg
    by_cases h : ClosedX n l F
    · exact ⟨0, Nat.le_refl _, h⟩
    · have := gap_lt hF hc h; omega
  | succ g ih =>
    intro F hF hg
    by_cases h : ClosedX n l F
    · exact ⟨0, Nat.zero_le _, h⟩
    · have := gap_lt hF hc h
      obtain ⟨t, h1, h2⟩ := ih (roundX n l F) (roundX_u32 hF hc) (by omega)
      refine ⟨t + 1, by omega, ?_⟩
      have e : ∀ t, iterX n l (roundX n l F) t = iterX n l F (t + 1) := by
        intro t
        induction t with
        | zero => rfl
        | succ t ih => show roundX n l (iterX n l (roundX n l F) t) = _; rw [ih]; rfl
      rw [← e]
      exact h2
theorem least_of {P : Nat → Prop} {t : Nat} (h : P t) : ∃ k, k ≤ t ∧ P k ∧ ∀ s, s < k → ¬ P s := by
  induction t using Nat.strongRecOn with
  | ind t ih =>
    by_cases e : ∃ s, s < t ∧ P s
    · obtain ⟨s, h1, h2⟩ := e
      obtain ⟨k, k1, k2, k3⟩ := ih s h1 h2
      exact ⟨k, by omega, k2, k3⟩
    · exact ⟨t, Nat.le_refl _, h, fun s hs hP => e ⟨s, hs, hP⟩⟩
/-- How many rounds till nothing is got. -/
noncomputable def lastX (n : Nat) (l : List Chn) (F : Nat → Nat → Nat) : Nat := by
  classical
  exact if h : ∃ k, k ≤ 1152 ∧ ClosedX n l (iterX n l F k) ∧ ∀ s, s < k → ¬ ClosedX n l (iterX n l F s) then Classical.choose h else 0
theorem last_spec {n : Nat} {l : List Chn} {F : Nat → Nat → Nat} (hn : n ≤ 6) (hF : U2 F) (hc : C32 l) :
    lastX n l F ≤ 1152 ∧ ClosedX n l (iterX n l F (lastX n l F)) ∧ ∀ s, s < lastX n l F → ¬ ClosedX n l (iterX n l F s) := by
  have h : ∃ k, k ≤ 1152 ∧ ClosedX n l (iterX n l F k) ∧ ∀ s, s < k → ¬ ClosedX n l (iterX n l F s) := by
    obtain ⟨t, h1, h2⟩ := ends_by n l hc 1152 F hF (gap_le hn F)
    obtain ⟨k, k1, k2, k3⟩ := least_of (P := fun t => ClosedX n l (iterX n l F t)) h2
    exact ⟨k, by omega, k2, k3⟩
  unfold lastX
  rw [dif_pos h]
  exact Classical.choose_spec h
/-- What the rounds come to. -/
noncomputable def closeX (n : Nat) (l : List Chn) (F : Nat → Nat → Nat) : Nat → Nat → Nat := iterX n l F (lastX n l F)
theorem closeX_least {n : Nat} {l : List Chn} {F G : Nat → Nat → Nat} (h : LeX n F G) (k : ClosedX n l G) : LeX n (closeX n l F) G := iter_below h k _
theorem le_close (n : Nat) (l : List Chn) (F : Nat → Nat → Nat) : LeX n F (closeX n l F) := iter_le (Nat.zero_le _)
theorem iter_close {n : Nat} {l : List Chn} {F : Nat → Nat → Nat} (hn : n ≤ 6) (hF : U2 F) (hc : C32 l) (t : Nat) : LeX n (iterX n l F t) (closeX n l F) := iter_below (le_close n l F) (last_spec hn hF hc).2.1 t
/-- A closed matrix that has all of F and is below each round's end is that end. -/
theorem close_unique {n : Nat} {l : List Chn} {F G : Nat → Nat → Nat} (h1 : LeX n F G) (h2 : ClosedX n l G) (h3 : LeX n G (closeX n l F)) : SameX n G (closeX n l F) := h3.anti (closeX_least h1 h2)

/-- A matrix of what a function has. -/
def tab2 (n : Nat) (F : Nat → Nat → Nat) : Mat := tabA n fun i => tabA n (F i)
theorem atM_tab2 {n i j : Nat} (F : Nat → Nat → Nat) (hi : i < n) (hj : j < n) : atM (tab2 n F) i j = F i j := by
  unfold atM tab2
  rw [tabA_get _ hi]
  show (tabA n (F i))[j]?.getD 0 = _
  rw [tabA_get _ hj]
  rfl
theorem tab2_same {n : Nat} {F G : Nat → Nat → Nat} : tab2 n F = tab2 n G ↔ SameX n F G := by
  constructor
  · intro h i j hi hj
    have := congrArg (fun m => atM m i j) h
    simp only [atM_tab2 _ hi hj] at this
    exact this
  · intro h
    exact tabA_congr fun i hi => tabA_congr fun j hj => h i j hi hj
theorem sq_tab2 {n : Nat} {m : Mat} (h : SqM n m) : m = tab2 n (atM m) := by
  obtain ⟨h1, h2⟩ := h
  apply List.ext_getElem?
  intro i
  unfold tab2
  by_cases hi : i < n
  · rw [tabA_get _ hi, List.getElem?_eq_getElem (by omega)]
    have hr := h2 m[i] (List.getElem_mem _)
    congr 1
    apply List.ext_getElem?
    intro j
    by_cases hj : j < n
    · rw [tabA_get _ hj]
      unfold atM
      rw [List.getElem?_eq_getElem (show i < m.length by omega)]
      show m[i][j]? = some (m[i][j]?.getD 0)
      rw [List.getElem?_eq_getElem (by omega)]
      rfl
    · rw [List.getElem?_eq_none (by omega), List.getElem?_eq_none (by simp; omega)]
  · rw [List.getElem?_eq_none (by omega), List.getElem?_eq_none (by simp; omega)]
theorem sq_of_tab2 (n : Nat) (F : Nat → Nat → Nat) : SqM n (tab2 n F) := by
  refine ⟨by simp [tab2], fun r hr => ?_⟩
  unfold tab2 tabA at hr
  rw [List.mem_map] at hr
  obtain ⟨i, _, rfl⟩ := hr
  simp

end Go.Proofs.Ythgmbiaajgpaaaa
