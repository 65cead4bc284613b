/- Plain mathematics of tables of which one follows from another: Craig, Beth. -/
import Derived.Test.YtcebbhfpnkhlmaaTB
import Derived.Test.YtcebbhfpnkhlmaaSetW
namespace Go.Proofs.Ytcebbhfpnkhlmaa
open Go.RowKit

/-- G is so wherever F is, of the first m. -/
def folB (F G : Nat → Bool) (m : Nat) : Bool := (List.range m).all fun s => !F s || G s
theorem fol_iff {F G : Nat → Bool} {m : Nat} : folB F G m = true ↔ ∀ s, s < m → F s = true → G s = true := by
  unfold folB
  rw [List.all_eq_true]
  constructor
  · intro h s hs hf
    have := h s (List.mem_range.2 hs)
    rw [hf] at this
    simpa using this
  · intro h s hs
    cases e : F s with
    | false => rfl
    | true => simpa using h s (List.mem_range.1 hs) e
theorem fol_succ (F G : Nat → Bool) (m : Nat) : folB F G (m + 1) = (folB F G m && (!F m || G m)) := by simp [folB, List.range_succ]
theorem fol_no {F G : Nat → Bool} {m k : Nat} (hk : k < m) (h1 : F k = true) (h2 : G k = false) : folB F G m = false := by
  cases e : folB F G m with
  | false => rfl
  | true => rw [fol_iff.1 e k hk h1] at h2; cases h2
theorem fol_congr {F G F' G' : Nat → Bool} {m : Nat} (h1 : ∀ s, s < m → F s = F' s) (h2 : ∀ s, s < m → G s = G' s) : folB F G m = folB F' G' m := by
  rw [Bool.eq_iff_iff, fol_iff, fol_iff]
  constructor
  · intro h s hs hf; rw [← h2 s hs]; exact h s hs (by rw [h1 s hs]; exact hf)
  · intro h s hs hf; rw [h2 s hs]; exact h s hs (by rw [← h1 s hs]; exact hf)
/-- They have the same of keep. -/
def agB (keep s t : Nat) : Bool := t &&& keep == s &&& keep
theorem ag_iff {keep s t : Nat} : agB keep s t = true ↔ ∀ i, keep.testBit i = true → t.testBit i = s.testBit i := by
  unfold agB
  rw [beq_iff_eq]
  constructor
  · intro h i hi
    have := congrArg (fun x => x.testBit i) h
    simp only [Nat.testBit_and, hi, Bool.and_true] at this
    exact this
  · intro h
    apply Nat.eq_of_testBit_eq
    intro i
    rw [Nat.testBit_and, Nat.testBit_and]
    cases e : keep.testBit i with
    | false => simp
    | true => rw [h i e]
theorem ag_refl (keep s : Nat) : agB keep s s = true := ag_iff.2 fun _ _ => rfl
theorem ag_symm {keep s t : Nat} (h : agB keep s t = true) : agB keep t s = true := ag_iff.2 fun i hi => (ag_iff.1 h i hi).symm
theorem ag_trans {keep s t u : Nat} (h : agB keep s t = true) (k : agB keep t u = true) : agB keep s u = true := ag_iff.2 fun i hi => (ag_iff.1 k i hi).trans (ag_iff.1 h i hi)
/-- So of one that is alike, of the first m. -/
def someP (F : Nat → Bool) (keep s m : Nat) : Bool := (List.range m).any fun t => agB keep s t && F t
/-- So of all that are alike, of the first m. -/
def allP (F : Nat → Bool) (keep s m : Nat) : Bool := (List.range m).all fun t => !agB keep s t || F t
theorem some_succ (F : Nat → Bool) (keep s m : Nat) : someP F keep s (m + 1) = (someP F keep s m || (agB keep s m && F m)) := by simp [someP, List.range_succ]
theorem all_succ (F : Nat → Bool) (keep s m : Nat) : allP F keep s (m + 1) = (allP F keep s m && (!agB keep s m || F m)) := by simp [allP, List.range_succ]
theorem some_iff {F : Nat → Bool} {keep s m : Nat} : someP F keep s m = true ↔ ∃ t, t < m ∧ agB keep s t = true ∧ F t = true := by
  unfold someP
  rw [List.any_eq_true]
  constructor
  · rintro ⟨t, ht, h⟩; rw [Bool.and_eq_true_iff] at h; exact ⟨t, List.mem_range.1 ht, h.1, h.2⟩
  · rintro ⟨t, ht, h1, h2⟩; exact ⟨t, List.mem_range.2 ht, by rw [h1, h2]; rfl⟩
theorem all_iff {F : Nat → Bool} {keep s m : Nat} : allP F keep s m = true ↔ ∀ t, t < m → agB keep s t = true → F t = true := by
  unfold allP
  rw [List.all_eq_true]
  constructor
  · intro h t ht ha
    have := h t (List.mem_range.2 ht)
    rw [ha] at this
    simpa using this
  · intro h t ht
    cases e : agB keep s t with
    | false => rfl
    | true => simpa using h t (List.mem_range.1 ht) e
theorem some_ag {F : Nat → Bool} {keep s t m : Nat} (h : agB keep s t = true) : someP F keep s m = someP F keep t m := by
  rw [Bool.eq_iff_iff, some_iff, some_iff]
  constructor
  · rintro ⟨u, a, b, c⟩; exact ⟨u, a, ag_trans (ag_symm h) b, c⟩
  · rintro ⟨u, a, b, c⟩; exact ⟨u, a, ag_trans h b, c⟩
theorem all_ag {F : Nat → Bool} {keep s t m : Nat} (h : agB keep s t = true) : allP F keep s m = allP F keep t m := by
  rw [Bool.eq_iff_iff, all_iff, all_iff]
  constructor
  · intro k u hu hb; exact k u hu (ag_trans h hb)
  · intro k u hu hb; exact k u hu (ag_trans (ag_symm h) hb)
theorem some_own {F : Nat → Bool} {keep s m : Nat} (hs : s < m) (h : F s = true) : someP F keep s m = true := some_iff.2 ⟨s, hs, ag_refl _ _, h⟩
theorem all_own {F : Nat → Bool} {keep s m : Nat} (hs : s < m) (h : allP F keep s m = true) : F s = true := all_iff.1 h s hs (ag_refl _ _)
theorem some_twice {F : Nat → Bool} {keep s m : Nat} (hs : s < m) : someP (fun t => someP F keep t m) keep s m = someP F keep s m := by
  rw [Bool.eq_iff_iff]
  constructor
  · intro h
    obtain ⟨t, _, ha, hf⟩ := some_iff.1 h
    rw [some_ag ha]; exact hf
  · intro h; exact some_iff.2 ⟨s, hs, ag_refl _ _, h⟩
theorem some_congr {F G : Nat → Bool} {keep s m : Nat} (h : ∀ t, t < m → F t = G t) : someP F keep s m = someP G keep s m := by
  rw [Bool.eq_iff_iff, some_iff, some_iff]
  constructor
  · rintro ⟨t, a, b, c⟩; exact ⟨t, a, b, by rw [← h t a]; exact c⟩
  · rintro ⟨t, a, b, c⟩; exact ⟨t, a, b, by rw [h t a]; exact c⟩
theorem some_not {F : Nat → Bool} {keep s m : Nat} : someP (fun t => !F t) keep s m = !allP F keep s m := by
  rw [Bool.eq_iff_iff, some_iff, Bool.not_eq_true', ← Bool.not_eq_true, all_iff]
  constructor
  · rintro ⟨t, a, b, c⟩ h
    rw [h t a b] at c
    cases c
  · intro h
    apply Classical.byContradiction
    intro k
    refine h fun t ht ha => ?_
    cases e : F t with
    | true => rfl
    | false => exact absurd ⟨t, ht, ha, by rw [e]; rfl⟩ k
/-- Craig. -/
theorem craig {n : Nat} {F G : Nat → Bool} {own other : Nat} : folB (fun s => someP F own s (one n)) (fun s => allP G other s (one n)) (one n) =
    folB (fun s => someP (fun t => someP F own t (one n)) (own &&& other) s (one n)) (fun s => allP G other s (one n)) (one n) := by
  rw [Bool.eq_iff_iff, fol_iff, fol_iff]
  constructor
  · intro h s hs hf
    obtain ⟨t, ht, ha, hft⟩ := some_iff.1 hf
    have hu := wordOf_lt n fun i => if own.testBit i then t.testBit i else s.testBit i
    have ub : ∀ i, (wordOf n fun i => if own.testBit i then t.testBit i else s.testBit i).testBit i = if own.testBit i then t.testBit i else s.testBit i := by
      intro i
      rw [testBit_wordOf]
      by_cases hi : i < n
      · simp [hi]
      · have h1 : t.testBit i = false := lt_one_testBit ht (by omega)
        have h2 : s.testBit i = false := lt_one_testBit hs (by omega)
        simp [hi, h1, h2]
    have a1 : agB own t (wordOf n fun i => if own.testBit i then t.testBit i else s.testBit i) = true := ag_iff.2 fun i hi => by rw [ub, if_pos hi]
    have a2 : agB other s (wordOf n fun i => if own.testBit i then t.testBit i else s.testBit i) = true := ag_iff.2 fun i hi => by
      rw [ub]
      cases e : own.testBit i with
      | false => simp
      | true => rw [if_pos rfl]; exact ag_iff.1 ha i (by rw [Nat.testBit_and, e, hi]; rfl)
    have := h _ hu (by rw [← some_ag a1]; exact hft)
    rw [all_ag a2]
    exact this
  · intro h s hs hf
    exact h s hs (some_own (F := fun t => someP F own t (one n)) hs hf)
/-- All variables but v. -/
theorem but_v {n v : Nat} (hn : n ≤ 4) (hv : v < n) : full n - one v = wordOf n fun i => decide (i ≠ v) := by
  have key : ∀ (n : Fin 5) (v : Fin 5), v.val < n.val → full n.val - one v.val = wordOf n.val fun i => decide (i ≠ v.val) := by decide +kernel
  exact key ⟨n, by omega⟩ ⟨v, by omega⟩ hv
theorem xor_bit (s v i : Nat) : (s ^^^ one v).testBit i = (s.testBit i ^^ decide (v = i)) := by unfold one; rw [Nat.testBit_xor, Nat.testBit_two_pow]
theorem xor_lt {n s v : Nat} (hs : s < one n) (hv : v < n) : s ^^^ one v < one n := Nat.xor_lt_two_pow hs (Nat.pow_lt_pow_right (by omega) hv)
/-- Beth: what is left when v is forgotten. -/
theorem some_but {n v s : Nat} {F : Nat → Bool} (hn : n ≤ 4) (hv : v < n) (hs : s < one n) : someP F (full n - one v) s (one n) = (F s || F (s ^^^ one v)) := by
  have hkeep : ∀ i, (full n - one v).testBit i = (decide (i < n) && decide (i ≠ v)) := fun i => by rw [but_v hn hv, testBit_wordOf]
  rw [Bool.eq_iff_iff, some_iff, Bool.or_eq_true_iff]
  constructor
  · rintro ⟨t, ht, ha, hf⟩
    have hag : ∀ i, i ≠ v → t.testBit i = s.testBit i := fun i hi => by
      by_cases h1 : i < n
      · exact ag_iff.1 ha i (by rw [hkeep]; simp [h1, hi])
      · rw [lt_one_testBit ht (by omega), lt_one_testBit hs (by omega)]
    by_cases e : t.testBit v = s.testBit v
    · left
      have : t = s := Nat.eq_of_testBit_eq fun i => by
        by_cases h : i = v
        · subst h; exact e
        · exact hag i h
      rw [← this]; exact hf
    · right
      have : t = s ^^^ one v := Nat.eq_of_testBit_eq fun i => by
        rw [xor_bit]
        by_cases h : v = i
        · subst h
          cases h1 : t.testBit v <;> cases h2 : s.testBit v <;> simp_all
        · rw [hag i (fun k => h k.symm)]; simp [h]
      rw [← this]; exact hf
  · rintro (h | h)
    · exact ⟨s, hs, ag_refl _ _, h⟩
    · refine ⟨_, xor_lt hs hv, ag_iff.2 fun i hi => ?_, h⟩
      rw [hkeep] at hi
      rw [xor_bit]
      have : v ≠ i := by intro k; subst k; simp at hi
      simp [this]
/-- Is v told by all others, by the first m? -/
def toldP (F : Nat → Bool) (v m : Nat) : Bool := (List.range m).all fun s => !(!s.testBit v && (F s && F (s + one v)))
theorem told_succ (F : Nat → Bool) (v m : Nat) : toldP F v (m + 1) = (toldP F v m && !(!m.testBit v && (F m && F (m + one v)))) := by simp [toldP, List.range_succ]
theorem add_xor {s v : Nat} (hs : s < 16) (hv : v < 4) (h : s.testBit v = false) : s + one v = s ^^^ one v := by
  have key : ∀ (s : Fin 16) (v : Fin 4), s.val.testBit v.val = false → s.val + one v.val = s.val ^^^ one v.val := by decide +kernel
  exact key ⟨s, hs⟩ ⟨v, hv⟩ h
theorem i64_xorS {s v : Nat} (hs : s < 16) (hv : v < 4) : bits .xor .i64 (s : Int) (one v : Int) = ((s ^^^ one v : Nat) : Int) := by
  have key : ∀ (s : Fin 16) (v : Fin 4), bits .xor .i64 (s.val : Int) (one v.val : Int) = ((s.val ^^^ one v.val : Nat) : Int) := by decide +kernel
  exact key ⟨s, hs⟩ ⟨v, hv⟩
theorem told_iff {n v : Nat} {F : Nat → Bool} (hn : n ≤ 4) (hv : v < n) : toldP F v (one n) = true ↔ ∀ s, s < one n → ¬ (F s = true ∧ F (s ^^^ one v) = true) := by
  have h16 := one_le_16 hn
  unfold toldP
  rw [List.all_eq_true]
  constructor
  · intro h s hs hf
    by_cases e : s.testBit v = false
    · have := h s (List.mem_range.2 hs)
      rw [e, hf.1, add_xor (by omega) (by omega) e, hf.2] at this
      cases this
    · have e2 : (s ^^^ one v).testBit v = false := by rw [xor_bit]; simp at e; simp [e]
      have hx := xor_lt hs hv
      have := h _ (List.mem_range.2 hx)
      rw [e2, hf.2, add_xor (by omega) (by omega) e2, Nat.xor_assoc, Nat.xor_self, Nat.xor_zero, hf.1] at this
      cases this
  · intro h s hs
    cases e : s.testBit v with
    | true => rfl
    | false =>
      have hs2 := List.mem_range.1 hs
      rw [add_xor (by omega) (by omega) e]
      have := h s (List.mem_range.1 hs)
      cases h1 : F s <;> cases h2 : F (s ^^^ one v) <;> simp_all

/-! ## The codes -/
open Classical in
/-- The code of two tables and a set. -/
noncomputable def codeK (n : Int) (lf lg keep : Nat) : Int := if codeT n lf ≠ 0 then codeT n lf else if codeT n lg ≠ 0 then codeT n lg else if keep < one n.toNat then 0 else 4
/-- The code of a table and a variable. -/
noncomputable def codeV (n : Int) (lf : Nat) (v : Int) : Int := if codeT n lf ≠ 0 then codeT n lf else if v < 0 ∨ n ≤ v then 4 else 0
theorem codeK_zero {n : Int} {lf lg keep : Nat} (h : codeK n lf lg keep = 0) : ∃ k : Nat, n = k ∧ k ≤ 4 ∧ lf = one k ∧ lg = one k ∧ keep < one k := by
  unfold codeK at h
  split at h
  · rename_i h1; exact absurd h h1
  · rename_i h1
    split at h
    · rename_i h2; exact absurd h h2
    · rename_i h2
      split at h
      · rename_i h3
        obtain ⟨k, e, hk, hl⟩ := codeT_zero (Decidable.not_not.1 h1)
        obtain ⟨k2, e2, _, hl2⟩ := codeT_zero (Decidable.not_not.1 h2)
        have : k = k2 := by omega
        subst this
        subst e
        exact ⟨k, rfl, hk, hl, hl2, by simpa using h3⟩
      · omega
theorem codeV_zero {n : Int} {lf : Nat} {v : Int} (h : codeV n lf v = 0) : ∃ k u : Nat, n = k ∧ v = u ∧ k ≤ 4 ∧ lf = one k ∧ u < k := by
  unfold codeV at h
  split at h
  · rename_i h1; exact absurd h h1
  · rename_i h1
    split at h
    · omega
    · rename_i h2
      obtain ⟨k, e, hk, hl⟩ := codeT_zero (Decidable.not_not.1 h1)
      obtain ⟨u, rfl⟩ := Int.eq_ofNat_of_zero_le (show 0 ≤ v by omega)
      exact ⟨k, u, e, rfl, hk, hl, by omega⟩

end Go.Proofs.Ytcebbhfpnkhlmaa
