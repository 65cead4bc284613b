/- Plain mathematics of keys: there is one, none is within another, and there are not too many. -/
import Derived.Test.YtdiofkkdhdhkaaaRl
namespace Go.Proofs.Ytdiofkkdhdhkaaa
open Go.RowKit

/-- In which chain a set of at most six things lies. -/
def chT : List Nat := [0, 0, 1, 0, 2, 2, 1, 0, 3, 3, 4, 3, 5, 2, 1, 0, 6, 6, 7, 6, 8, 8, 7, 6, 9, 9, 4, 3, 5, 2, 1, 0, 10, 10, 11, 10, 12, 12, 11, 10, 13, 13, 14, 13, 15, 12, 11, 10, 16, 16, 17, 16, 18, 8, 7, 6, 19, 9, 4, 3, 5, 2, 1, 0]
def chainOf (s : Nat) : Nat := chT.getD s 0
/-- How many sets there are of half of all things. -/
def most (n : Nat) : Nat := [1, 1, 2, 3, 6, 10, 20].getD n 0
theorem chain_cmp : ∀ s, s < 64 → ∀ t, t < 64 → chainOf s = chainOf t → (sub s t || sub t s) = true := by decide +kernel
theorem chain_few : ∀ n, n < 7 → ∀ s, s < 2 ^ n → chainOf s < most n := by decide +kernel

/-- Of sets none of which is within another there are no more than that. -/
theorem sperner {n : Nat} (hn : n ≤ 6) {l : List Nat} (hl : l.Nodup) (hs : ∀ s ∈ l, s < one n) (ha : ∀ s ∈ l, ∀ t ∈ l, sub s t = true → s = t) : l.length ≤ most n := by
  have h64 := one_le_64 hn
  have := inj_len (k := List.range (most n)) chainOf hl (fun s h => List.mem_range.2 (chain_few n (by omega) s (hs s h))) (fun s h t k e => by
    have h1 := hs s h
    have h2 := hs t k
    have h3 := chain_cmp s (by omega) t (by omega) e
    rw [Bool.or_eq_true] at h3
    rcases h3 with h3 | h3
    · exact ha s h t k h3
    · exact (ha t k s h h3).symm)
  simpa using this

theorem key_iff {n : Nat} {rs : List (Nat × Nat)} {s : Nat} : keyB n rs s = true ↔ closeW n rs s = full n ∧ ∀ i, i < n → s.testBit i = true → closeW n rs (s - one i) ≠ full n := by
  unfold keyB
  rw [Bool.and_eq_true, beq_iff_eq, List.all_eq_true]
  constructor
  · rintro ⟨h1, h2⟩
    refine ⟨h1, fun i hi hb e => ?_⟩
    have := h2 i (List.mem_range.2 hi)
    simp [hb, e] at this
  · rintro ⟨h1, h2⟩
    refine ⟨h1, fun i hi => ?_⟩
    have hi := List.mem_range.1 hi
    cases hb : s.testBit i with
    | false => rfl
    | true => simp [h2 i hi hb]
theorem one_le_of_bit {s i : Nat} (h : s.testBit i = true) : one i ≤ s := by
  rcases Nat.lt_or_ge s (one i) with h1 | h1
  · rw [lt_one_testBit h1 (Nat.le_refl i)] at h; cases h
  · exact h1
theorem bit_minus {s i : Nat} (h : s.testBit i = true) (j : Nat) : (s - one i).testBit j = (s.testBit j && !decide (i = j)) := by
  have hQ : s / 2 ^ i % 2 = 1 := by rw [Nat.testBit_eq_decide_div_mod_eq] at h; simpa using h
  obtain ⟨q, r, hr, e⟩ : ∃ q r, r < 2 ^ i ∧ s = 2 ^ i * (2 * q + 1) + r := by
    refine ⟨s / 2 ^ i / 2, s % 2 ^ i, Nat.mod_lt _ (Nat.two_pow_pos i), ?_⟩
    rw [show 2 * (s / 2 ^ i / 2) + 1 = s / 2 ^ i by omega]
    exact (Nat.div_add_mod s (2 ^ i)).symm
  have e2 : s - one i = 2 ^ i * (2 * q) + r := by
    rw [e, Nat.mul_add, Nat.mul_one]
    unfold one
    omega
  rw [e2, e, Nat.testBit_two_pow_mul_add _ hr, Nat.testBit_two_pow_mul_add _ hr]
  by_cases h1 : j < i
  · simp [h1, show ¬ i = j by omega]
  · simp only [h1, if_false]
    by_cases h2 : i = j
    · subst h2; simp
    · obtain ⟨k, hk⟩ : ∃ k, j - i = k + 1 := ⟨j - i - 1, by omega⟩
      rw [hk, Nat.testBit_succ, Nat.testBit_succ]
      simp [h2, show (2 * q + 1) / 2 = q by omega]

theorem minus_lt {n s i : Nat} (hs : s < one n) : s - one i < one n := by omega
/-- There is a key. -/
theorem key_some {n : Nat} {rs : List (Nat × Nat)} : ∃ s, s < one n ∧ keyB n rs s = true := by
  have ex : ∀ m s, s ≤ m → closeW n rs s = full n → ∃ t, t ≤ s ∧ keyB n rs t = true := by
    intro m
    induction m with
    | zero =>
      intro s hs h
      refine ⟨s, Nat.le_refl _, key_iff.2 ⟨h, fun i _ hb => ?_⟩⟩
      obtain rfl : s = 0 := by omega
      simp at hb
    | succ m ih =>
      intro s hs h
      by_cases hk : keyB n rs s = true
      · exact ⟨s, Nat.le_refl _, hk⟩
      · have : ∃ i, i < n ∧ s.testBit i = true ∧ closeW n rs (s - one i) = full n := by
          apply Classical.byContradiction
          intro hno
          refine hk (key_iff.2 ⟨h, fun i hi hb e => hno ⟨i, hi, hb, e⟩⟩)
        obtain ⟨i, _, hb, hc⟩ := this
        have h1 := one_le_of_bit hb
        have h2 := one_pos i
        obtain ⟨t, ht, hk⟩ := ih (s - one i) (by omega) hc
        exact ⟨t, by omega, hk⟩
  have hfull : closeW n rs (full n) = full n := by
    apply sub_anti
    · exact sub_full (closeW_lt _ _ _)
    · exact close_sub (full_lt n)
  obtain ⟨t, ht, hk⟩ := ex (full n) (full n) (Nat.le_refl _) hfull
  exact ⟨t, by have := full_lt n; omega, hk⟩
/-- No key is within another one. -/
theorem key_anti {n : Nat} {rs : List (Nat × Nat)} (hf : FitR n rs) {s t : Nat} (ht : t < one n) (h1 : keyB n rs s = true) (h2 : keyB n rs t = true) (h : sub s t = true) : s = t := by
  apply Classical.byContradiction
  intro hne
  have : ∃ i, t.testBit i = true ∧ s.testBit i = false := by
    apply Classical.byContradiction
    intro hno
    refine hne (sub_anti h (sub_iff.2 fun i hi => ?_))
    cases e : s.testBit i with
    | true => rfl
    | false => exact absurd ⟨i, hi, e⟩ hno
  obtain ⟨i, hi, hsi⟩ := this
  refine (key_iff.1 h2).2 i (bit_lt ht hi) hi ?_
  apply sub_anti
  · exact sub_full (closeW_lt _ _ _)
  · rw [← (key_iff.1 h1).1]
    refine close_mono hf (minus_lt ht) (sub_iff.2 fun j hj => ?_)
    rw [bit_minus hi, sub_iff.1 h j hj]
    by_cases e : i = j
    · subst e; rw [hj] at hsi; cases hsi
    · simp [e]
/-- All keys. -/
def keyL (n : Nat) (rs : List (Nat × Nat)) : List Nat := (List.range (one n)).filter (keyB n rs)
theorem mem_keyL {n : Nat} {rs : List (Nat × Nat)} {s : Nat} : s ∈ keyL n rs ↔ s < one n ∧ keyB n rs s = true := by unfold keyL; rw [List.mem_filter, List.mem_range]
theorem keyL_nodup (n : Nat) (rs : List (Nat × Nat)) : (keyL n rs).Nodup := List.Pairwise.filter _ List.nodup_range
theorem keyL_few {n : Nat} {rs : List (Nat × Nat)} (hn : n ≤ 6) (hf : FitR n rs) : (keyL n rs).length ≤ most n :=
  sperner hn (keyL_nodup n rs) (fun _ h => (mem_keyL.1 h).1) (fun _ h _ k e => key_anti hf (mem_keyL.1 k).1 (mem_keyL.1 h).2 (mem_keyL.1 k).2 e)
theorem keyL_some (n : Nat) (rs : List (Nat × Nat)) : 0 < (keyL n rs).length := by
  obtain ⟨s, h1, h2⟩ := key_some (n := n) (rs := rs)
  exact List.length_pos_of_mem (mem_keyL.2 ⟨h1, h2⟩)

end Go.Proofs.Ytdiofkkdhdhkaaa
