/- Plain mathematics of clauses: what holds of a word, the first one, resolvents, refutations. -/
import Derived.Test.YtekeeodnjlebcaaDoorRl
import Derived.Test.YtekeeodnjlebcaaDoorSetW
import Derived.Test.YtekeeodnjlebcaaDoorPop
namespace Go.Proofs.YtekeeodnjlebcaaDoor
open Go.RowKit

/-- A clause: what is to be, what is not to be. -/
abbrev Cla := Nat × Nat
/-- Does it hold of s? -/
def holdB (c : Cla) (s : Nat) : Bool := !((c.1 &&& s == 0) && sub c.2 s)
/-- Do all hold of s? -/
def trueB (l : List Cla) (s : Nat) : Bool := l.all fun c => holdB c s
theorem and_zero_iff {a s : Nat} : a &&& s = 0 ↔ ∀ i, a.testBit i = true → s.testBit i = false := by
  constructor
  · intro h i hi
    have := Nat.testBit_and a s i
    rw [h, hi, Bool.true_and, Nat.zero_testBit] at this
    exact this.symm
  · intro h
    apply Nat.eq_of_testBit_eq
    intro i
    rw [Nat.testBit_and, Nat.zero_testBit]
    cases e : a.testBit i with
    | false => rfl
    | true => rw [h i e]; rfl
theorem hold_iff {c : Cla} {s : Nat} : holdB c s = true ↔ (∃ i, c.1.testBit i = true ∧ s.testBit i = true) ∨ ∃ i, c.2.testBit i = true ∧ s.testBit i = false := by
  unfold holdB
  rw [Bool.not_eq_true', Bool.and_eq_false_iff]
  constructor
  · rintro (h | h)
    · left
      apply Classical.byContradiction
      intro k
      rw [beq_eq_false_iff_ne] at h
      refine h (and_zero_iff.2 fun i hi => ?_)
      cases e : s.testBit i with
      | false => rfl
      | true => exact absurd ⟨i, hi, e⟩ k
    · right
      apply Classical.byContradiction
      intro k
      have : sub c.2 s = true := sub_iff.2 fun i hi => by
        cases e : s.testBit i with
        | true => rfl
        | false => exact absurd ⟨i, hi, e⟩ k
      rw [this] at h
      cases h
  · rintro (⟨i, h1, h2⟩ | ⟨i, h1, h2⟩)
    · left
      rw [beq_eq_false_iff_ne]
      intro k
      rw [and_zero_iff.1 k i h1] at h2
      cases h2
    · right
      cases e : sub c.2 s with
      | false => rfl
      | true => rw [sub_iff.1 e i h1] at h2; cases h2
theorem true_iff {l : List Cla} {s : Nat} : trueB l s = true ↔ ∀ c ∈ l, holdB c s = true := by unfold trueB; rw [List.all_eq_true]
theorem true_take {l : List Cla} {k s : Nat} {c : Cla} (h : trueB (l.take k) s = true) (hc : l[k]? = some c) (h2 : holdB c s = true) : trueB (l.take (k + 1)) s = true := by
  rw [List.take_add_one, hc]
  unfold trueB at *
  simp only [Option.toList, List.all_append, h, List.all_cons, h2, List.all_nil, Bool.and_true]
theorem true_no {l : List Cla} {k s : Nat} {c : Cla} (hc : l[k]? = some c) (h2 : holdB c s = false) : trueB l s = false := by
  cases e : trueB l s with
  | false => rfl
  | true => rw [true_iff.1 e c (List.mem_of_getElem? hc)] at h2; cases h2
/-- Things that are no variables don't count. -/
theorem hold_full {n : Nat} {c : Cla} {s : Nat} (h1 : c.1 < one n) (h2 : c.2 < one n) : holdB c (s &&& full n) = holdB c s := by
  rw [Bool.eq_iff_iff, hold_iff, hold_iff]
  constructor
  · rintro (⟨i, a, b⟩ | ⟨i, a, b⟩)
    · rw [Nat.testBit_and] at b; exact .inl ⟨i, a, (Bool.and_eq_true_iff.1 b).1⟩
    · rw [Nat.testBit_and, full_bit, decide_eq_true (bit_lt h2 a), Bool.and_true] at b; exact .inr ⟨i, a, b⟩
  · rintro (⟨i, a, b⟩ | ⟨i, a, b⟩)
    · exact .inl ⟨i, a, by rw [Nat.testBit_and, full_bit, decide_eq_true (bit_lt h1 a), b]; rfl⟩
    · exact .inr ⟨i, a, by rw [Nat.testBit_and, b]; rfl⟩
theorem true_full {n : Nat} {l : List Cla} (hf : FitR n l) (s : Nat) : trueB l (s &&& full n) = trueB l s := by
  rw [Bool.eq_iff_iff, true_iff, true_iff]
  exact forall_congr' fun c => forall_congr' fun hc => by rw [hold_full (hf c hc).1 (hf c hc).2]

/-! ## The first word -/
/-- The first word of which all hold. -/
def firstS (n : Nat) (l : List Cla) : Option Nat := (List.range (one n)).find? (trueB l)
theorem first_none {n : Nat} {l : List Cla} : firstS n l = none ↔ ∀ s, s < one n → trueB l s = false := by
  unfold firstS
  rw [List.find?_range_eq_none]
  simp
theorem first_some {n : Nat} {l : List Cla} {s : Nat} : firstS n l = some s ↔ s < one n ∧ trueB l s = true ∧ ∀ t, t < s → trueB l t = false := by
  unfold firstS
  rw [List.find?_range_eq_some]
  simp
  constructor
  · rintro ⟨a, b, c⟩; exact ⟨b, a, c⟩
  · rintro ⟨a, b, c⟩; exact ⟨b, a, c⟩
/-- The models depend on what holds alone. -/
theorem first_congr {n : Nat} {l m : List Cla} (h : ∀ s, s < one n → trueB l s = trueB m s) : firstS n l = firstS n m := by
  cases e : firstS n m with
  | none => exact first_none.2 fun s hs => by rw [h s hs]; exact first_none.1 e s hs
  | some s =>
    obtain ⟨h1, h2, h3⟩ := first_some.1 e
    exact first_some.2 ⟨h1, by rw [h s h1]; exact h2, fun t ht => by rw [h t (by omega)]; exact h3 t ht⟩

/-! ## Horn clauses -/
/-- At most one is to be, in each. -/
def hornB (l : List Cla) : Bool := l.all fun c => decide (pop c.1 ≤ 1)
theorem horn_iff {l : List Cla} : hornB l = true ↔ ∀ c ∈ l, pop c.1 ≤ 1 := by unfold hornB; rw [List.all_eq_true]; simp
/-- The least of all of which all hold. -/
def IsLeastM (n : Nat) (l : List Cla) (s : Nat) : Prop := s < one n ∧ trueB l s = true ∧ ∀ t, t < one n → trueB l t = true → sub s t = true
theorem sub_leN {a b : Nat} (h : sub a b = true) : a ≤ b := by
  unfold sub at h
  rw [beq_iff_eq] at h
  rw [← h]
  exact Nat.left_le_or
theorem IsLeastM.first {n : Nat} {l : List Cla} {s : Nat} (h : IsLeastM n l s) : firstS n l = some s :=
  first_some.2 ⟨h.1, h.2.1, fun t ht => by
    cases e : trueB l t with
    | false => rfl
    | true => have := sub_leN (h.2.2 t (by have := h.1; omega) e); omega⟩
theorem bitSum_has : ∀ (k x i : Nat), i < k → x.testBit i = true → 1 ≤ bitSum k x
  | 0, _, _, h, _ => by omega
  | k + 1, x, i, h, hx => by
    rw [show k + 1 = k + 1 from rfl]
    have e := bitSum_add 1 k x
    rw [Nat.add_comm] at e
    rw [e]
    cases i with
    | zero =>
      have : x % 2 = 1 := by rw [Nat.testBit_zero] at hx; simpa using hx
      have h1 : bitSum 1 x = 1 := by simp [bitSum, this]
      omega
    | succ i =>
      rw [Nat.testBit_succ] at hx
      have := bitSum_has k (x / 2) i (by omega) hx
      rw [Nat.pow_one]
      omega
theorem bitSum_two : ∀ (k x i j : Nat), i < j → j < k → x.testBit i = true → x.testBit j = true → 2 ≤ bitSum k x
  | 0, _, _, _, _, h, _, _ => by omega
  | k + 1, x, i, j, hij, h, hi, hj => by
    have e := bitSum_add 1 k x
    rw [Nat.add_comm] at e
    rw [e]
    cases j with
    | zero => omega
    | succ j =>
      rw [Nat.testBit_succ] at hj
      cases i with
      | zero =>
        have : x % 2 = 1 := by rw [Nat.testBit_zero] at hi; simpa using hi
        have h1 : bitSum 1 x = 1 := by simp [bitSum, this]
        have := bitSum_has k (x / 2) j (by omega) hj
        rw [Nat.pow_one]
        omega
      | succ i =>
        rw [Nat.testBit_succ] at hi
        have := bitSum_two k (x / 2) i j (by omega) (by omega) hi hj
        rw [Nat.pow_one]
        omega
theorem pop_one {x i j : Nat} (h : pop x ≤ 1) (hx : x < 4294967296) (hi : x.testBit i = true) (hj : x.testBit j = true) : i = j := by
  have hi2 : i < 32 := bit_lt (n := 32) (by simpa [one] using hx) hi
  have hj2 : j < 32 := bit_lt (n := 32) (by simpa [one] using hx) hj
  unfold pop at h
  rcases Nat.lt_trichotomy i j with k | k | k
  · have := bitSum_two 32 x i j k hj2 hi hj; omega
  · exact k
  · have := bitSum_two 32 x j i k hi2 hj hi; omega
theorem horn_and {l : List Cla} (h : hornB l = true) (h32 : W32 l) {a b : Nat} (ha : trueB l a = true) (hb : trueB l b = true) : trueB l (a &&& b) = true := by
  rw [true_iff] at *
  intro c hc
  have hp := horn_iff.1 h c hc
  have h1 := hold_iff.1 (ha c hc)
  have h2 := hold_iff.1 (hb c hc)
  apply hold_iff.2
  rcases h1 with ⟨i, i1, i2⟩ | ⟨i, i1, i2⟩
  · rcases h2 with ⟨j, j1, j2⟩ | ⟨j, j1, j2⟩
    · have := pop_one hp (h32 c hc).1 i1 j1
      subst this
      exact .inl ⟨i, i1, by rw [Nat.testBit_and, i2, j2]; rfl⟩
    · exact .inr ⟨j, j1, by rw [Nat.testBit_and, j2, Bool.and_false]⟩
  · exact .inr ⟨i, i1, by rw [Nat.testBit_and, i2]; rfl⟩

/-! ## Resolvents -/
def resAt (a b : Cla) (v : Nat) : Bool := a.1.testBit v && b.2.testBit v
def resV (a b : Cla) (v : Nat) : Cla := (wo a.1 (one v) ||| b.1, a.2 ||| wo b.2 (one v))
/-- What two clauses make. -/
def resv (a b : Cla) : Option Cla := ((List.range 32).find? (resAt a b)).map (resV a b)
theorem resv_none {a b : Cla} (h : ∀ v, v < 32 → resAt a b v = false) : resv a b = none := by
  unfold resv
  rw [Option.map_eq_none_iff, List.find?_range_eq_none]
  simpa using h
theorem resv_some {a b : Cla} {v : Nat} (hv : v < 32) (h : resAt a b v = true) (k : ∀ u, u < v → resAt a b u = false) : resv a b = some (resV a b v) := by
  unfold resv
  rw [Option.map_eq_some_iff]
  refine ⟨v, ?_, rfl⟩
  rw [List.find?_range_eq_some]
  simp
  exact ⟨h, hv, k⟩
theorem resv_of {a b c : Cla} (h : resv a b = some c) : ∃ v, v < 32 ∧ a.1.testBit v = true ∧ b.2.testBit v = true ∧ c = resV a b v := by
  unfold resv at h
  rw [Option.map_eq_some_iff] at h
  obtain ⟨v, h1, h2⟩ := h
  rw [List.find?_range_eq_some] at h1
  obtain ⟨p, q, _⟩ := h1
  unfold resAt at p
  rw [Bool.and_eq_true_iff] at p
  exact ⟨v, List.mem_range.1 q, p.1, p.2, h2.symm⟩
theorem wo_bit {a v i : Nat} (ha : a < 4294967296) (hv : v < 32) : (wo a (one v)).testBit i = (a.testBit i && !decide (v = i)) := by
  unfold wo
  rw [and_not_bit (one_lt hv) ha]
  unfold one
  rw [Nat.testBit_two_pow]
theorem resV_hold {a b : Cla} {v s : Nat} (hv : v < 32) (ha1 : a.1 < 4294967296) (hb2 : b.2 < 4294967296) (ha : holdB a s = true) (hb : holdB b s = true) : holdB (resV a b v) s = true := by
  apply hold_iff.2
  rw [hold_iff] at ha hb
  unfold resV
  cases e : s.testBit v with
  | true =>
    rcases hb with ⟨i, i1, i2⟩ | ⟨i, i1, i2⟩
    · exact .inl ⟨i, by rw [Nat.testBit_or, i1, Bool.or_true], i2⟩
    · refine .inr ⟨i, ?_, i2⟩
      have : v ≠ i := by intro k; subst k; rw [e] at i2; cases i2
      rw [Nat.testBit_or, wo_bit hb2 hv, i1]
      simp [this]
  | false =>
    rcases ha with ⟨i, i1, i2⟩ | ⟨i, i1, i2⟩
    · refine .inl ⟨i, ?_, i2⟩
      have : v ≠ i := by intro k; subst k; rw [e] at i2; cases i2
      rw [Nat.testBit_or, wo_bit ha1 hv, i1]
      simp [this]
    · exact .inr ⟨i, by rw [Nat.testBit_or, i1, Bool.true_or], i2⟩
theorem resV_lt {n : Nat} {a b : Cla} {v : Nat} (ha : a.1 < one n ∧ a.2 < one n) (hb : b.1 < one n ∧ b.2 < one n) : (resV a b v).1 < one n ∧ (resV a b v).2 < one n := by
  unfold resV
  exact ⟨or_lt_iff.2 ⟨Nat.lt_of_le_of_lt (wo_le _ _) ha.1, hb.1⟩, or_lt_iff.2 ⟨ha.2, Nat.lt_of_le_of_lt (wo_le _ _) hb.2⟩⟩
theorem resv_hold {a b c : Cla} {s : Nat} (h : resv a b = some c) (ha1 : a.1 < 4294967296) (hb2 : b.2 < 4294967296) (ha : holdB a s = true) (hb : holdB b s = true) : holdB c s = true := by
  obtain ⟨v, hv, _, _, rfl⟩ := resv_of h
  exact resV_hold hv ha1 hb2 ha hb
theorem resv_lt {n : Nat} {a b c : Cla} (h : resv a b = some c) (ha : a.1 < one n ∧ a.2 < one n) (hb : b.1 < one n ∧ b.2 < one n) : c.1 < one n ∧ c.2 < one n := by
  obtain ⟨v, hv, _, _, rfl⟩ := resv_of h
  exact resV_lt ha hb
theorem resv_true {l : List Cla} {a b c : Cla} (h32 : W32 l) (ha : a ∈ l) (hb : b ∈ l) (h : resv a b = some c) (s : Nat) : trueB (l ++ [c]) s = trueB l s := by
  rw [Bool.eq_iff_iff, true_iff, true_iff]
  constructor
  · intro k x hx; exact k x (List.mem_append_left _ hx)
  · intro k x hx
    rw [List.mem_append, List.mem_singleton] at hx
    rcases hx with hx | rfl
    · exact k x hx
    · exact resv_hold h (h32 a ha).1 (h32 b hb).2 (k a ha) (k b hb)

/-! ## Refutations -/
/-- The clauses with those that the pairs make; none where a pair makes none. -/
def addAll : List Cla → List (Int × Int) → Option (List Cla)
  | all, [] => some all
  | all, p :: ps =>
    if 0 ≤ p.1 ∧ 0 ≤ p.2 ∧ p.1 < all.length ∧ p.2 < all.length then
      match resv (all.getD p.1.toNat (0, 0)) (all.getD p.2.toNat (0, 0)) with
      | none => none
      | some c => addAll (all ++ [c]) ps
    else none
theorem addAll_append (xs ys : List (Int × Int)) : ∀ all, addAll all (xs ++ ys) = (addAll all xs).bind fun a => addAll a ys := by
  induction xs with
  | nil => intro all; rfl
  | cons p ps ih =>
    intro all
    rw [List.cons_append, addAll, addAll]
    split
    · cases resv (all.getD p.1.toNat (0, 0)) (all.getD p.2.toNat (0, 0)) with
      | none => rfl
      | some c => exact ih _
    · rfl
/-- Do the pairs make one that is empty? -/
def refutesB (l : List Cla) (ps : List (Int × Int)) : Bool :=
  if ps = [] then l.any fun c => decide (c = (0, 0)) else match addAll l ps with
    | none => false
    | some all => decide (all.getLast? = some (0, 0))
theorem addAll_len {ps : List (Int × Int)} : ∀ {l all : List Cla}, addAll l ps = some all → all.length = l.length + ps.length := by
  induction ps with
  | nil => intro l all h; simp only [addAll, Option.some.injEq] at h; subst h; rfl
  | cons p ps ih =>
    intro l all h
    rw [addAll] at h
    split at h
    · split at h
      · cases h
      · have := ih h
        simp at this ⊢
        omega
    · cases h
theorem addAll_w32 {ps : List (Int × Int)} : ∀ {l all : List Cla}, W32 l → addAll l ps = some all → W32 all := by
  induction ps with
  | nil => intro l all h32 h; simp only [addAll, Option.some.injEq] at h; subst h; exact h32
  | cons p ps ih =>
    intro l all h32 h
    rw [addAll] at h
    split at h
    · rename_i hp
      split at h
      · cases h
      · rename_i c hc
        refine ih ?_ h
        intro x hx
        rw [List.mem_append, List.mem_singleton] at hx
        rcases hx with hx | rfl
        · exact h32 x hx
        · have e : (4294967296 : Nat) = one 32 := rfl
          have g1 : l.getD p.1.toNat (0, 0) ∈ l := by
            rw [List.getD_eq_getElem?_getD, List.getElem?_eq_getElem (show p.1.toNat < l.length by omega)]
            exact List.getElem_mem _
          have g2 : l.getD p.2.toNat (0, 0) ∈ l := by
            rw [List.getD_eq_getElem?_getD, List.getElem?_eq_getElem (show p.2.toNat < l.length by omega)]
            exact List.getElem_mem _
          rw [e]
          exact resv_lt hc (h32 _ g1) (h32 _ g2)
    · cases h
theorem refutes_take {l all : List Cla} {ps : List (Int × Int)} {k : Nat} {p : Int × Int} (h : addAll l (ps.take k) = some all) (hp : ps[k]? = some p) :
    addAll l (ps.take (k + 1)) = addAll all [p] := by
  rw [List.take_add_one, hp, Option.toList, addAll_append, h]
  rfl
theorem refutes_no {l all : List Cla} {ps : List (Int × Int)} {k : Nat} {p : Int × Int} (h : addAll l (ps.take k) = some all) (hp : ps[k]? = some p) (hn : addAll all [p] = none) : refutesB l ps = false := by
  have hk : k < ps.length := (List.getElem?_eq_some_iff.1 hp).1
  have e : addAll l ps = none := by
    have h1 := refutes_take h hp
    rw [← List.take_append_drop (k + 1) ps, addAll_append, h1, hn]
    rfl
  unfold refutesB
  rw [if_neg (by intro z; rw [z] at hk; simp at hk), e]
theorem addAll_one {all : List Cla} {p : Int × Int} (h : 0 ≤ p.1 ∧ 0 ≤ p.2 ∧ p.1 < all.length ∧ p.2 < all.length) :
    addAll all [p] = (resv (all.getD p.1.toNat (0, 0)) (all.getD p.2.toNat (0, 0))).map fun c => all ++ [c] := by
  rw [addAll, if_pos h]
  cases resv (all.getD p.1.toNat (0, 0)) (all.getD p.2.toNat (0, 0)) <;> rfl
theorem addAll_out {all : List Cla} {p : Int × Int} (h : ¬ (0 ≤ p.1 ∧ 0 ≤ p.2 ∧ p.1 < all.length ∧ p.2 < all.length)) : addAll all [p] = none := by
  rw [addAll, if_neg h]

/-! ## The codes -/
def LargeC (n : Int) (l : List Cla) : Prop := n < 1 ∨ 6 < n ∨ 16 < l.length
open Classical in
noncomputable def codeC (n : Int) (l : List Cla) : Int := if LargeC n l then 1 else if FitR n.toNat l then 0 else 4
theorem codeC_large {n : Int} {l : List Cla} (h : LargeC n l) : codeC n l = 1 := by simp [codeC, h]
theorem codeC_ok {n : Nat} {l : List Cla} (h : ¬ LargeC n l) (h2 : FitR n l) : codeC n l = 0 := by simp [codeC, h, h2]
theorem codeC_bad {n : Nat} {l : List Cla} (h : ¬ LargeC n l) (h2 : ¬ FitR n l) : codeC n l = 4 := by simp [codeC, h, h2]
theorem codeC_zero {n : Int} {l : List Cla} (h : codeC n l = 0) : ∃ k : Nat, n = k ∧ 1 ≤ k ∧ k ≤ 6 ∧ l.length ≤ 16 ∧ FitR k l := by
  by_cases h1 : LargeC n l
  · rw [codeC_large h1] at h; omega
  · obtain ⟨k, rfl⟩ := Int.eq_ofNat_of_zero_le (show 0 ≤ n by unfold LargeC at h1; omega)
    by_cases h2 : FitR k l
    · exact ⟨k, rfl, by unfold LargeC at h1; omega, by unfold LargeC at h1; omega, by unfold LargeC at h1; omega, h2⟩
    · rw [codeC_bad h1 h2] at h; omega
theorem codeC_range (n : Int) (l : List Cla) : codeC n l = 0 ∨ codeC n l = 1 ∨ codeC n l = 4 := by
  unfold codeC
  split
  · exact .inr (.inl rfl)
  · split
    · exact .inl rfl
    · exact .inr (.inr rfl)
/-- The code of Solve. -/
noncomputable def codeS (n : Int) (l : List Cla) : Int := if codeC n l = 0 then (if firstS n.toNat l = none then 5 else 0) else codeC n l
/-- The code of Horn. -/
noncomputable def codeH (n : Int) (l : List Cla) : Int := if codeC n l = 0 then (if hornB l = true then (if firstS n.toNat l = none then 5 else 0) else 3) else codeC n l
/-- The code of Refute. -/
noncomputable def codeU (n : Int) (l : List Cla) : Int := if codeC n l = 0 then (if firstS n.toNat l = none then 0 else 5) else codeC n l

end Go.Proofs.YtekeeodnjlebcaaDoor
