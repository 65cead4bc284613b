/- Plain mathematics of rules, closed sets and closures. -/
import Derived.Test.YthgmbiaajgpaaaaTable
namespace Go.Proofs.Ythgmbiaajgpaaaa
open Go.RowKit

/-! ## Rules, as cells -/
def rulesC (rs : List (Nat × Nat)) : List Value := rs.flatMap fun r => [Value.int .u32 (r.1 : Int), Value.int .u32 (r.2 : Int)]
theorem rulesC_length (rs : List (Nat × Nat)) : (rulesC rs).length = 2 * rs.length := by
  induction rs with
  | nil => rfl
  | cons p ps ih => simp only [rulesC, List.flatMap_cons, List.length_append, List.length_cons, List.length_nil] at *; omega
theorem rulesC_at0 {rs : List (Nat × Nat)} {k : Nat} {p : Nat × Nat} (h : rs[k]? = some p) : (rulesC rs)[k * 2]? = some (.int .u32 (p.1 : Int)) := by
  induction rs generalizing k with
  | nil => simp at h
  | cons q ps ih =>
    cases k with
    | zero => simp at h; subst h; simp [rulesC]
    | succ k =>
      have := ih (k := k) (by simpa using h)
      simp only [rulesC, List.flatMap_cons] at this ⊢
      rw [show (k + 1) * 2 = 2 + k * 2 from by omega]
      rw [List.getElem?_append_right (by simp)]
      simpa using this
theorem rulesC_at1 {rs : List (Nat × Nat)} {k : Nat} {p : Nat × Nat} (h : rs[k]? = some p) : (rulesC rs)[k * 2 + 1]? = some (.int .u32 (p.2 : Int)) := by
  induction rs generalizing k with
  | nil => simp at h
  | cons q ps ih =>
    cases k with
    | zero => simp at h; subst h; simp [rulesC]
    | succ k =>
      have := ih (k := k) (by simpa using h)
      simp only [rulesC, List.flatMap_cons] at this ⊢
      rw [show (k + 1) * 2 + 1 = 2 + (k * 2 + 1) from by omega]
      rw [List.getElem?_append_right (by simp)]
      simpa using this
theorem rulesC_append (xs ys : List (Nat × Nat)) : rulesC (xs ++ ys) = rulesC xs ++ rulesC ys := by simp [rulesC]
/-- Both words are words of 32 bits. -/
def W32 (rs : List (Nat × Nat)) : Prop := ∀ r ∈ rs, r.1 < 4294967296 ∧ r.2 < 4294967296

/-! ## Sets within sets -/
def sub (a b : Nat) : Bool := a ||| b == b
theorem sub_iff {a b : Nat} : sub a b = true ↔ ∀ i, a.testBit i = true → b.testBit i = true := by
  unfold sub
  rw [beq_iff_eq]
  constructor
  · intro h i hi
    rw [← h, Nat.testBit_or, hi]; rfl
  · intro h
    apply Nat.eq_of_testBit_eq
    intro i
    rw [Nat.testBit_or]
    cases e : a.testBit i with
    | false => simp
    | true => rw [h i e]; rfl
theorem sub_refl (a : Nat) : sub a a = true := sub_iff.2 fun _ h => h
theorem sub_trans {a b c : Nat} (h : sub a b = true) (k : sub b c = true) : sub a c = true := sub_iff.2 fun i hi => sub_iff.1 k i (sub_iff.1 h i hi)
theorem sub_anti {a b : Nat} (h : sub a b = true) (k : sub b a = true) : a = b :=
  Nat.eq_of_testBit_eq fun i => by
    rw [Bool.eq_iff_iff]
    exact ⟨sub_iff.1 h i, sub_iff.1 k i⟩
theorem sub_orL (a b : Nat) : sub a (a ||| b) = true := sub_iff.2 fun i h => by rw [Nat.testBit_or, h]; rfl
theorem sub_orR (a b : Nat) : sub b (a ||| b) = true := sub_iff.2 fun i h => by rw [Nat.testBit_or, h]; simp
theorem or_sub {a b c : Nat} : sub (a ||| b) c = true ↔ sub a c = true ∧ sub b c = true := by
  constructor
  · intro h; exact ⟨sub_trans (sub_orL a b) h, sub_trans (sub_orR a b) h⟩
  · rintro ⟨h, k⟩
    refine sub_iff.2 fun i hi => ?_
    rw [Nat.testBit_or, Bool.or_eq_true] at hi
    rcases hi with hi | hi
    · exact sub_iff.1 h i hi
    · exact sub_iff.1 k i hi
theorem sub_and {a b c : Nat} : sub a (b &&& c) = true ↔ sub a b = true ∧ sub a c = true := by
  constructor
  · intro h
    exact ⟨sub_iff.2 fun i hi => by have := sub_iff.1 h i hi; rw [Nat.testBit_and, Bool.and_eq_true] at this; exact this.1,
      sub_iff.2 fun i hi => by have := sub_iff.1 h i hi; rw [Nat.testBit_and, Bool.and_eq_true] at this; exact this.2⟩
  · rintro ⟨h, k⟩
    refine sub_iff.2 fun i hi => ?_
    rw [Nat.testBit_and, sub_iff.1 h i hi, sub_iff.1 k i hi]; rfl
theorem bit_lt {n a i : Nat} (h : a < one n) (hi : a.testBit i = true) : i < n := by
  rcases Nat.lt_or_ge i n with h1 | h1
  · exact h1
  · rw [lt_one_testBit h h1] at hi; cases hi
/-- All things. -/
def full (n : Nat) : Nat := one n - 1
theorem full_lt (n : Nat) : full n < one n := by have := one_pos n; unfold full; omega
theorem full_bit (n i : Nat) : (full n).testBit i = decide (i < n) := by unfold full one; exact Nat.testBit_two_pow_sub_one n i
theorem sub_full {n a : Nat} (h : a < one n) : sub a (full n) = true := sub_iff.2 fun i hi => by
  rw [full_bit, decide_eq_true_iff]
  rcases Nat.lt_or_ge i n with h1 | h1
  · exact h1
  · rw [lt_one_testBit h h1] at hi; cases hi
theorem lt_of_sub {n a b : Nat} (h : sub a b = true) (hb : b < one n) : a < one n := by
  have e : a = wordOf n fun i => a.testBit i := by
    apply Nat.eq_of_testBit_eq
    intro i
    rw [testBit_wordOf]
    rcases Nat.lt_or_ge i n with h1 | h1
    · simp [h1]
    · have : a.testBit i = false := by
        cases h2 : a.testBit i with
        | false => rfl
        | true => have := sub_iff.1 h i h2; rw [lt_one_testBit hb h1] at this; cases this
      simp [this]
  rw [e]; exact wordOf_lt _ _

/-! ## Closed sets -/
def closedB (rs : List (Nat × Nat)) (s : Nat) : Bool := rs.all fun r => !(sub r.1 s) || sub r.2 s
theorem closed_iff {rs : List (Nat × Nat)} {s : Nat} : closedB rs s = true ↔ ∀ r ∈ rs, sub r.1 s = true → sub r.2 s = true := by
  unfold closedB
  rw [List.all_eq_true]
  constructor
  · intro h r hr h1
    have := h r hr
    rw [h1] at this
    simpa using this
  · intro h r hr
    cases e : sub r.1 s with
    | false => rfl
    | true => rw [h r hr e]; rfl
/-- The rules are of n things. -/
def FitR (n : Nat) (rs : List (Nat × Nat)) : Prop := ∀ r ∈ rs, r.1 < one n ∧ r.2 < one n
theorem closed_and {rs : List (Nat × Nat)} {s t : Nat} (h : closedB rs s = true) (k : closedB rs t = true) : closedB rs (s &&& t) = true :=
  closed_iff.2 fun r hr h1 => by
    rw [sub_and] at h1 ⊢
    exact ⟨closed_iff.1 h r hr h1.1, closed_iff.1 k r hr h1.2⟩
theorem closed_full {n : Nat} {rs : List (Nat × Nat)} (hf : FitR n rs) : closedB rs (full n) = true :=
  closed_iff.2 fun r hr _ => sub_full (hf r hr).2

/-- What all of the first k sets have that are closed and have s. -/
def closeP (n : Nat) (rs : List (Nat × Nat)) (s : Nat) : Nat → Nat
  | 0 => full n
  | k + 1 => if (sub s k && closedB rs k) = true then closeP n rs s k &&& k else closeP n rs s k
/-- The closure. -/
def closeW (n : Nat) (rs : List (Nat × Nat)) (s : Nat) : Nat := closeP n rs s (one n)
theorem closeP_yes {n : Nat} {rs : List (Nat × Nat)} {s k : Nat} (h : sub s k = true) (h2 : closedB rs k = true) : closeP n rs s (k + 1) = closeP n rs s k &&& k := by simp [closeP, h, h2]
theorem closeP_no {n : Nat} {rs : List (Nat × Nat)} {s k : Nat} (h : ¬ (sub s k = true ∧ closedB rs k = true)) : closeP n rs s (k + 1) = closeP n rs s k := by
  rw [closeP, if_neg]
  rw [Bool.and_eq_true]
  exact h
theorem mem_closeP {n : Nat} {rs : List (Nat × Nat)} {s i : Nat} : ∀ k, (closeP n rs s k).testBit i = true ↔ i < n ∧ ∀ c, c < k → sub s c = true → closedB rs c = true → c.testBit i = true
  | 0 => by simp [closeP, full_bit]
  | k + 1 => by
    have ih := mem_closeP (n := n) (rs := rs) (s := s) (i := i) k
    by_cases h : sub s k = true ∧ closedB rs k = true
    · rw [closeP_yes h.1 h.2, Nat.testBit_and, Bool.and_eq_true, ih]
      constructor
      · rintro ⟨⟨h1, h2⟩, h3⟩
        refine ⟨h1, fun c hc h4 h5 => ?_⟩
        by_cases e : c = k
        · subst e; exact h3
        · exact h2 c (by omega) h4 h5
      · rintro ⟨h1, h2⟩
        exact ⟨⟨h1, fun c hc => h2 c (by omega)⟩, h2 k (by omega) h.1 h.2⟩
    · rw [closeP_no h, ih]
      constructor
      · rintro ⟨h1, h2⟩
        refine ⟨h1, fun c hc h4 h5 => ?_⟩
        by_cases e : c = k
        · subst e; exact absurd ⟨h4, h5⟩ h
        · exact h2 c (by omega) h4 h5
      · rintro ⟨h1, h2⟩
        exact ⟨h1, fun c hc => h2 c (by omega)⟩
theorem closeP_lt (n : Nat) (rs : List (Nat × Nat)) (s : Nat) : ∀ k, closeP n rs s k < one n
  | 0 => full_lt n
  | k + 1 => by
    have ih := closeP_lt n rs s k
    unfold closeP
    split
    · exact Nat.lt_of_le_of_lt Nat.and_le_left ih
    · exact ih
theorem closeW_lt (n : Nat) (rs : List (Nat × Nat)) (s : Nat) : closeW n rs s < one n := closeP_lt _ _ _ _
theorem mem_closeW {n : Nat} {rs : List (Nat × Nat)} {s i : Nat} : (closeW n rs s).testBit i = true ↔ i < n ∧ ∀ c, c < one n → sub s c = true → closedB rs c = true → c.testBit i = true := mem_closeP _
theorem close_sub {n : Nat} {rs : List (Nat × Nat)} {s : Nat} (hs : s < one n) : sub s (closeW n rs s) = true :=
  sub_iff.2 fun i hi => mem_closeW.2 ⟨bit_lt hs hi, fun _ _ h2 _ => sub_iff.1 h2 i hi⟩
theorem close_least {n : Nat} {rs : List (Nat × Nat)} {s c : Nat} (hc : c < one n) (h : sub s c = true) (k : closedB rs c = true) : sub (closeW n rs s) c = true :=
  sub_iff.2 fun _ hi => (mem_closeW.1 hi).2 c hc h k
theorem close_closed {n : Nat} {rs : List (Nat × Nat)} (hf : FitR n rs) (s : Nat) : closedB rs (closeW n rs s) = true :=
  closed_iff.2 fun r hr h1 => sub_iff.2 fun i hi => mem_closeW.2 ⟨bit_lt (hf r hr).2 hi, fun _ hc h2 h3 => sub_iff.1 (closed_iff.1 h3 r hr (sub_trans h1 (close_least hc h2 h3))) i hi⟩
/-- The closure is the least closed set. -/
theorem close_eq {n : Nat} {rs : List (Nat × Nat)} (hf : FitR n rs) {s x : Nat} (hs : s < one n) (hx : x < one n) (h1 : sub s x = true) (h2 : closedB rs x = true) (h3 : ∀ c, c < one n → sub s c = true → closedB rs c = true → sub x c = true) : x = closeW n rs s :=
  sub_anti (h3 _ (closeW_lt _ _ _) (close_sub hs) (close_closed hf s)) (close_least hx h1 h2)
theorem close_own {n : Nat} {rs : List (Nat × Nat)} {s : Nat} (hs : s < one n) (h : closedB rs s = true) : closeW n rs s = s :=
  sub_anti (close_least hs (sub_refl s) h) (close_sub hs)
theorem close_mono {n : Nat} {rs : List (Nat × Nat)} (hf : FitR n rs) {s t : Nat} (ht : t < one n) (h : sub s t = true) : sub (closeW n rs s) (closeW n rs t) = true :=
  close_least (closeW_lt _ _ _) (sub_trans h (close_sub ht)) (close_closed hf t)
theorem closed_iff_own {n : Nat} {rs : List (Nat × Nat)} (hf : FitR n rs) {s : Nat} (hs : s < one n) : closeW n rs s = s ↔ closedB rs s = true :=
  ⟨fun h => by rw [← h]; exact close_closed hf s, close_own hs⟩
/-- By which the same sets are closed, by these the same is the closure. -/
theorem close_congr {n : Nat} {rs rs' : List (Nat × Nat)} (h : ∀ c, c < one n → closedB rs c = closedB rs' c) (s : Nat) : closeW n rs s = closeW n rs' s :=
  Nat.eq_of_testBit_eq fun i => by
    rw [Bool.eq_iff_iff, mem_closeW, mem_closeW]
    constructor
    · rintro ⟨h1, h2⟩; exact ⟨h1, fun c hc k1 k2 => h2 c hc k1 ((h c hc).trans k2)⟩
    · rintro ⟨h1, h2⟩; exact ⟨h1, fun c hc k1 k2 => h2 c hc k1 ((h c hc).symm.trans k2)⟩

/-! ## The codes -/
def LargeR (n : Int) (rs : List (Nat × Nat)) : Prop := n < 1 ∨ 6 < n ∨ 10 < rs.length
open Classical in
noncomputable def codeR (n : Int) (rs : List (Nat × Nat)) (s : Nat) : Int := if LargeR n rs then 1 else if FitR n.toNat rs ∧ s < one n.toNat then 0 else 4
theorem codeR_large {n : Int} {rs : List (Nat × Nat)} {s : Nat} (h : LargeR n rs) : codeR n rs s = 1 := by simp [codeR, h]
theorem codeR_ok {n : Nat} {rs : List (Nat × Nat)} {s : Nat} (h : ¬ LargeR n rs) (h2 : FitR n rs) (h3 : s < one n) : codeR n rs s = 0 := by simp [codeR, h, h2, h3]
theorem codeR_bad {n : Nat} {rs : List (Nat × Nat)} {s : Nat} (h : ¬ LargeR n rs) (h2 : ¬ (FitR n rs ∧ s < one n)) : codeR n rs s = 4 := by
  rw [codeR, if_neg h, if_neg]; exact h2
theorem codeR_zero {n : Int} {rs : List (Nat × Nat)} {s : Nat} (h : codeR n rs s = 0) : ∃ k : Nat, n = k ∧ 1 ≤ k ∧ k ≤ 6 ∧ rs.length ≤ 10 ∧ FitR k rs ∧ s < one k := by
  by_cases h1 : LargeR n rs
  · rw [codeR_large h1] at h; omega
  · obtain ⟨k, rfl⟩ := Int.eq_ofNat_of_zero_le (show 0 ≤ n by unfold LargeR at h1; omega)
    by_cases h2 : FitR k rs ∧ s < one k
    · refine ⟨k, rfl, ?_, ?_, ?_, h2.1, h2.2⟩ <;> (unfold LargeR at h1; omega)
    · rw [codeR_bad h1 h2] at h; omega
theorem codeR_of {k : Nat} {rs : List (Nat × Nat)} {s t : Nat} (h : codeR k rs s = 0) (ht : t < one k) : codeR k rs t = 0 := by
  obtain ⟨k', e, h1, h2, h3, h4, _⟩ := codeR_zero h
  obtain rfl : k = k' := by omega
  exact codeR_ok (by unfold LargeR; omega) h4 ht
theorem or_lt_iff {n a b : Nat} : a ||| b < one n ↔ a < one n ∧ b < one n :=
  ⟨fun h => ⟨lt_of_sub (sub_orL a b) h, lt_of_sub (sub_orR a b) h⟩, fun h => or_lt_one h.1 h.2⟩

/-- The first closed sets. -/
def closedL (rs : List (Nat × Nat)) (k : Nat) : List Nat := (List.range k).filter (closedB rs)
theorem filter_yes {p : Nat → Bool} {k : Nat} (h : p k = true) : (List.range (k + 1)).filter p = (List.range k).filter p ++ [k] := by
  rw [List.range_succ, List.filter_append]; simp [h]
theorem filter_no {p : Nat → Bool} {k : Nat} (h : p k = false) : (List.range (k + 1)).filter p = (List.range k).filter p := by
  rw [List.range_succ, List.filter_append]; simp [h]
theorem filter_len (p : Nat → Bool) (k : Nat) : ((List.range k).filter p).length ≤ k := Nat.le_trans (List.length_filter_le _ _) (by simp)

/-- Is a set a key? -/
def keyB (n : Nat) (rs : List (Nat × Nat)) (s : Nat) : Bool := (closeW n rs s == full n) && (List.range n).all fun i => !(s.testBit i && (closeW n rs (s - one i) == full n))

end Go.Proofs.Ythgmbiaajgpaaaa
