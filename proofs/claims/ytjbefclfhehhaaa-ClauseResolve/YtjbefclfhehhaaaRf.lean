/- Plain mathematics of a refutation by excluding one set after another. -/
import Derived.Test.YtjbefclfhehhaaaCl
namespace Go.Proofs.Ytjbefclfhehhaaa
open Go.RowKit

/-- A clause of the first k variables. -/
def Over (k : Nat) (c : Cla) : Prop := c.1 < one k ∧ c.2 < one k
/-- A clause of the first k variables that does not hold of s. -/
def OutC (k s : Nat) (c : Cla) : Prop := Over k c ∧ holdB c s = false
theorem hold_no {c : Cla} {s : Nat} : holdB c s = false ↔ (∀ i, c.1.testBit i = true → s.testBit i = false) ∧ ∀ i, c.2.testBit i = true → s.testBit i = true := by
  unfold holdB
  rw [Bool.not_eq_false', Bool.and_eq_true, beq_iff_eq, and_zero_iff, sub_iff]
theorem lt_one_of {k x : Nat} (h : ∀ i, x.testBit i = true → i < k) : x < one k := by
  unfold one
  apply Nat.lt_pow_two_of_testBit
  intro i hi
  cases e : x.testBit i with
  | false => rfl
  | true => have := h i e; omega
theorem lt_one_down {k x : Nat} (h : x < one (k + 1)) (hb : x.testBit k = false) : x < one k :=
  lt_one_of fun i hi => by
    have h1 := bit_lt h hi
    rcases Nat.lt_or_ge i k with h2 | h2
    · exact h2
    · obtain rfl : i = k := by omega
      rw [hb] at hi; cases hi
theorem or_one_bit {s k i : Nat} : (s ||| one k).testBit i = (s.testBit i || decide (k = i)) := by
  rw [Nat.testBit_or]
  unfold one
  rw [Nat.testBit_two_pow]
theorem over_up {k : Nat} {c : Cla} (h : Over k c) : Over (k + 1) c := by
  have : one (k + 1) = 2 * one k := by unfold one; rw [Nat.pow_succ]; omega
  unfold Over at *
  omega
/-- What find tries. -/
def partC (p s : Nat) : Cla := (wo p s, p &&& s)
theorem part_bit1 {p s i : Nat} (hp : p < 4294967296) (hs : s < 4294967296) : (partC p s).1.testBit i = (p.testBit i && !s.testBit i) := by
  unfold partC wo
  exact and_not_bit hs hp
theorem part_bit2 {p s i : Nat} : (partC p s).2.testBit i = (p.testBit i && s.testBit i) := Nat.testBit_and _ _ _
theorem part_out {k p s : Nat} (hp : p < one k) (hp2 : p < 4294967296) (hs : s < 4294967296) : OutC k s (partC p s) := by
  refine ⟨⟨lt_one_of fun i hi => ?_, lt_one_of fun i hi => ?_⟩, hold_no.2 ⟨fun i hi => ?_, fun i hi => ?_⟩⟩
  · rw [part_bit1 hp2 hs, Bool.and_eq_true] at hi
    exact bit_lt hp hi.1
  · rw [part_bit2, Bool.and_eq_true] at hi
    exact bit_lt hp hi.1
  · rw [part_bit1 hp2 hs, Bool.and_eq_true] at hi
    simpa using hi.2
  · rw [part_bit2, Bool.and_eq_true] at hi
    exact hi.2
theorem out_part {k s : Nat} {c : Cla} (h : OutC k s c) (h1 : c.1 < 4294967296) (h2 : c.2 < 4294967296) (hs : s < 4294967296) : c.1 ||| c.2 < one k ∧ partC (c.1 ||| c.2) s = c := by
  obtain ⟨⟨a, b⟩, h⟩ := h
  obtain ⟨n1, n2⟩ := hold_no.1 h
  refine ⟨or_lt_iff.2 ⟨a, b⟩, Prod.ext (Nat.eq_of_testBit_eq fun i => ?_) (Nat.eq_of_testBit_eq fun i => ?_)⟩
  · rw [part_bit1 (by have e : (4294967296 : Nat) = one 32 := rfl; rw [e] at *; exact or_lt_iff.2 ⟨h1, h2⟩) hs, Nat.testBit_or]
    cases e1 : c.1.testBit i with
    | true => rw [n1 i e1]; rfl
    | false =>
      cases e2 : c.2.testBit i with
      | true => rw [n2 i e2]; rfl
      | false => rfl
  · rw [part_bit2, Nat.testBit_or]
    cases e2 : c.2.testBit i with
    | true => rw [n2 i e2]; simp
    | false =>
      cases e1 : c.1.testBit i with
      | true => rw [n1 i e1]; rfl
      | false => rfl
theorem out_low {k s : Nat} {c : Cla} (h : OutC (k + 1) s c) (hs : s < one k) (hb : c.1.testBit k = false) : OutC k s c := by
  obtain ⟨⟨a, b⟩, h⟩ := h
  obtain ⟨n1, n2⟩ := hold_no.1 h
  refine ⟨⟨lt_one_down a hb, lt_one_down b ?_⟩, h⟩
  cases e : c.2.testBit k with
  | false => rfl
  | true => have := bit_lt hs (n2 k e); omega
theorem out_high {k s : Nat} {c : Cla} (h : OutC (k + 1) (s ||| one k) c) (hb : c.2.testBit k = false) : OutC k s c := by
  obtain ⟨⟨a, b⟩, h⟩ := h
  obtain ⟨n1, n2⟩ := hold_no.1 h
  have h1 : c.1.testBit k = false := by
    cases e : c.1.testBit k with
    | false => rfl
    | true => have := n1 k e; rw [or_one_bit] at this; simp at this
  refine ⟨⟨lt_one_down a h1, lt_one_down b hb⟩, hold_no.2 ⟨fun i hi => ?_, fun i hi => ?_⟩⟩
  · have := n1 i hi
    rw [or_one_bit, Bool.or_eq_false_iff] at this
    exact this.1
  · have h3 := n2 i hi
    rw [or_one_bit, Bool.or_eq_true] at h3
    rcases h3 with h3 | h3
    · exact h3
    · rw [decide_eq_true_iff] at h3
      subst h3
      rw [hb] at hi; cases hi
theorem out_res {k s : Nat} {a b : Cla} (hk : k < 32) (ha : OutC (k + 1) s a) (hb : OutC (k + 1) (s ||| one k) b) (hs : s < one k) (h1 : a.1.testBit k = true) (h2 : b.2.testBit k = true)
    (ha1 : a.1 < 4294967296) (hb2 : b.2 < 4294967296) : resv a b = some (resV a b k) ∧ OutC k s (resV a b k) := by
  obtain ⟨⟨oa1, oa2⟩, na⟩ := ha
  obtain ⟨⟨ob1, ob2⟩, nb⟩ := hb
  obtain ⟨n1, n2⟩ := hold_no.1 na
  obtain ⟨m1, m2⟩ := hold_no.1 nb
  constructor
  · apply resv_some hk
    · unfold resAt; rw [h1, h2]; rfl
    · intro u hu
      unfold resAt
      cases e : a.1.testBit u with
      | false => rfl
      | true =>
        cases e2 : b.2.testBit u with
        | false => rfl
        | true =>
          have h3 := m2 u e2
          rw [or_one_bit, n1 u e] at h3
          simp at h3
          omega
  · have t1 : ∀ i, (resV a b k).1.testBit i = true → i < k ∧ s.testBit i = false := by
      intro i hi
      unfold resV at hi
      rw [Nat.testBit_or, Bool.or_eq_true, wo_bit ha1 hk] at hi
      rcases hi with hi | hi
      · rw [Bool.and_eq_true] at hi
        have := bit_lt oa1 hi.1
        have h5 : k ≠ i := by have := hi.2; simpa using this
        exact ⟨by omega, n1 i hi.1⟩
      · have := bit_lt ob1 hi
        have h4 := m1 i hi
        rw [or_one_bit, Bool.or_eq_false_iff] at h4
        have h5 : k ≠ i := by simpa using h4.2
        exact ⟨by omega, h4.1⟩
    have t2 : ∀ i, (resV a b k).2.testBit i = true → i < k ∧ s.testBit i = true := by
      intro i hi
      unfold resV at hi
      rw [Nat.testBit_or, Bool.or_eq_true, wo_bit hb2 hk] at hi
      rcases hi with hi | hi
      · have h4 := n2 i hi
        exact ⟨bit_lt hs h4, h4⟩
      · rw [Bool.and_eq_true] at hi
        have h4 := m2 i hi.1
        have h5 : k ≠ i := by have := hi.2; simpa using this
        rw [or_one_bit, Bool.or_eq_true] at h4
        have h6 : s.testBit i = true := by
          rcases h4 with h4 | h4
          · exact h4
          · rw [decide_eq_true_iff] at h4; exact absurd h4 h5
        exact ⟨bit_lt hs h6, h6⟩
    exact ⟨⟨lt_one_of fun i hi => (t1 i hi).1, lt_one_of fun i hi => (t2 i hi).1⟩, hold_no.2 ⟨fun i hi => (t1 i hi).2, fun i hi => (t2 i hi).2⟩⟩

/-- What exclude does: c is such a clause; what is new ends with it, and nothing else that is new is a clause of the first k variables. -/
def ExP (k s : Nat) (all all' : List Cla) (c : Cla) : Prop :=
  OutC k s c ∧ c ∈ all' ∧ ∃ new, all' = all ++ new ∧ (new = [] ∨ ∃ m, new = m ++ [c] ∧ ∀ x ∈ m, ¬ Over k x)
theorem ExP.found {k s : Nat} {all : List Cla} {c : Cla} (h : OutC k s c) (hc : c ∈ all) : ExP k s all all c := ⟨h, hc, [], by simp, .inl rfl⟩
theorem not_over_up {k : Nat} {x : Cla} (h : ¬ Over (k + 1) x) : ¬ Over k x := fun h2 => h (over_up h2)
theorem ExP.left {k s : Nat} {all all' : List Cla} {c : Cla} (h : ExP (k + 1) s all all' c) (hs : s < one k) (hb : c.1.testBit k = false) : ExP k s all all' c := by
  obtain ⟨h1, h2, new, rfl, h3⟩ := h
  refine ⟨out_low h1 hs hb, h2, new, rfl, ?_⟩
  rcases h3 with rfl | ⟨m, rfl, h4⟩
  · exact .inl rfl
  · exact .inr ⟨m, rfl, fun x hx => not_over_up (h4 x hx)⟩
theorem ExP.grown {k s : Nat} {all all' : List Cla} {c : Cla} (h : ExP (k + 1) s all all' c) (hb : ¬ Over k c) : ∃ new, all' = all ++ new ∧ ∀ x ∈ new, ¬ Over k x := by
  obtain ⟨h1, h2, new, rfl, h3⟩ := h
  refine ⟨new, rfl, ?_⟩
  rcases h3 with rfl | ⟨m, rfl, h4⟩
  · simp
  · intro x hx
    rw [List.mem_append, List.mem_singleton] at hx
    rcases hx with hx | rfl
    · exact not_over_up (h4 x hx)
    · exact hb
theorem not_over1 {k : Nat} {c : Cla} (h : c.1.testBit k = true) : ¬ Over k c := fun h2 => by have := bit_lt h2.1 h; omega
theorem not_over2 {k : Nat} {c : Cla} (h : c.2.testBit k = true) : ¬ Over k c := fun h2 => by have := bit_lt h2.2 h; omega
theorem ExP.right {k s : Nat} {all all1 all2 : List Cla} {a b : Cla} (ha : ExP (k + 1) s all all1 a) (h1 : a.1.testBit k = true) (hb : ExP (k + 1) (s ||| one k) all1 all2 b) (h2 : b.2.testBit k = false)
    (hno : ∀ x ∈ all, ¬ OutC k s x) : ExP k s all all2 b := by
  obtain ⟨n1, rfl, hn1⟩ := ha.grown (not_over1 h1)
  obtain ⟨g1, g2, n2, rfl, g3⟩ := hb
  have hO := out_high g1 h2
  refine ⟨hO, g2, n1 ++ n2, by rw [List.append_assoc], ?_⟩
  rcases g3 with rfl | ⟨m, rfl, h4⟩
  · exfalso
    rw [List.append_nil, List.mem_append] at g2
    rcases g2 with g2 | g2
    · exact hno _ g2 hO
    · exact hn1 _ g2 hO.1
  · refine .inr ⟨n1 ++ m, by rw [List.append_assoc], fun x hx => ?_⟩
    rw [List.mem_append] at hx
    rcases hx with hx | hx
    · exact hn1 x hx
    · exact not_over_up (h4 x hx)
theorem ExP.res {k s : Nat} {all all1 all2 : List Cla} {a b : Cla} (ha : ExP (k + 1) s all all1 a) (h1 : a.1.testBit k = true) (hb : ExP (k + 1) (s ||| one k) all1 all2 b) (h2 : b.2.testBit k = true)
    (hno : ∀ x ∈ all, ¬ OutC k s x) (hO : OutC k s (resV a b k)) : ExP k s all (all2 ++ [resV a b k]) (resV a b k) ∧ resV a b k ∉ all2 ∧ a ∈ all2 ∧ b ∈ all2 := by
  have haa := ha.2.1
  obtain ⟨n1, rfl, hn1⟩ := ha.grown (not_over1 h1)
  have hbb := hb.2.1
  obtain ⟨n2, rfl, hn2⟩ := hb.grown (not_over2 h2)
  refine ⟨⟨hO, by simp, n1 ++ n2 ++ [resV a b k], by simp, .inr ⟨n1 ++ n2, rfl, fun x hx => ?_⟩⟩, fun hx => ?_, List.mem_append_left _ haa, hbb⟩
  · rw [List.mem_append] at hx
    rcases hx with hx | hx
    · exact hn1 x hx
    · exact hn2 x hx
  · rw [List.mem_append, List.mem_append] at hx
    rcases hx with (hx | hx) | hx
    · exact hno _ hx hO
    · exact hn1 _ hx hO.1
    · exact hn2 _ hx hO.1
theorem addAll_pre {ps : List (Int × Int)} : ∀ {l all : List Cla}, addAll l ps = some all → ∃ der, all = l ++ der := by
  induction ps with
  | nil => intro l all h; simp only [addAll, Option.some.injEq] at h; subst h; exact ⟨[], by simp⟩
  | cons p ps ih =>
    intro l all h
    rw [addAll] at h
    split at h
    · split at h
      · cases h
      · obtain ⟨der, rfl⟩ := ih h
        exact ⟨_, List.append_assoc _ _ _⟩
    · cases h
theorem ExP.refutes {l all : List Cla} {ps : List (Int × Int)} {c : Cla} (h : ExP 0 0 l all c) (ha : addAll l ps = some all) : refutesB l ps = true := by
  obtain ⟨⟨⟨h1, h2⟩, _⟩, hc, new, rfl, h3⟩ := h
  have hlen := addAll_len ha
  have hc0 : c = (0, 0) := by
    have e : one 0 = 1 := rfl
    exact Prod.ext (by show c.1 = 0; omega) (by show c.2 = 0; omega)
  subst hc0
  unfold refutesB
  rcases h3 with rfl | ⟨m, rfl, _⟩
  · have : ps = [] := List.eq_nil_of_length_eq_zero (by rw [List.append_nil] at hlen; omega)
    rw [if_pos this, List.any_eq_true]
    exact ⟨(0, 0), by simpa using hc, by simp⟩
  · rw [if_neg (by intro e; subst e; simp at hlen), ha]
    simp
theorem addAll_more {l all : List Cla} {ps : List (Int × Int)} {i j : Nat} {a b c : Cla} (h : addAll l ps = some all) (hi : all[i]? = some a) (hj : all[j]? = some b) (hc : resv a b = some c) :
    addAll l (ps ++ [((i : Int), (j : Int))]) = some (all ++ [c]) := by
  have h1 := (List.getElem?_eq_some_iff.1 hi).1
  have h2 := (List.getElem?_eq_some_iff.1 hj).1
  rw [addAll_append, h, Option.bind_some, addAll_one (by simp only; omega)]
  simp only [Int.toNat_natCast, List.getD_eq_getElem?_getD, hi, hj, Option.getD_some, hc]
  rfl
/-- Where nothing satisfies the list, a clause of it excludes each set. -/
theorem excl_base {n s : Nat} {l : List Cla} (hn : firstS n l = none) (hf : FitR n l) (hs : s < one n) : ∃ c ∈ l, OutC n s c := by
  have h := first_none.1 hn s hs
  apply Classical.byContradiction
  intro k
  have : trueB l s = true := true_iff.2 fun c hc => by
    cases e : holdB c s with
    | true => rfl
    | false => exact absurd ⟨c, hc, hf c hc, e⟩ k
  rw [this] at h
  cases h

end Go.Proofs.Ytjbefclfhehhaaa
