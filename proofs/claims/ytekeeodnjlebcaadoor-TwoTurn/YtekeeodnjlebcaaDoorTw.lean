/- Plain mathematics of clauses of one or two literals. -/
import Derived.Test.YtekeeodnjlebcaaDoorCl
namespace Go.Proofs.YtekeeodnjlebcaaDoor
open Go.RowKit

/-- The literals of a clause, of the first k variables. -/
def litsK (n : Nat) (c : Cla) (k : Nat) : List Nat := (List.range k).flatMap fun v => (if c.1.testBit v = true then [v] else []) ++ (if c.2.testBit v = true then [v + n] else [])
theorem litsK_succ (n : Nat) (c : Cla) (k : Nat) : litsK n c (k + 1) = litsK n c k ++ ((if c.1.testBit k = true then [k] else []) ++ (if c.2.testBit k = true then [k + n] else [])) := by simp [litsK, List.range_succ]
theorem mem_lits {n : Nat} {c : Cla} {k i : Nat} (_hk : k ≤ n) : i ∈ litsK n c k ↔ (i < k ∧ c.1.testBit i = true) ∨ (n ≤ i ∧ i < k + n ∧ c.2.testBit (i - n) = true) := by
  unfold litsK
  rw [List.mem_flatMap]
  constructor
  · rintro ⟨v, hv, h⟩
    have hv := List.mem_range.1 hv
    rw [List.mem_append] at h
    rcases h with h | h
    · split at h
      · rename_i hb
        simp at h
        subst h
        exact .inl ⟨hv, hb⟩
      · simp at h
    · split at h
      · rename_i hb
        simp at h
        subst h
        exact .inr ⟨by omega, by omega, by rw [Nat.add_sub_cancel]; exact hb⟩
      · simp at h
  · rintro (⟨h1, h2⟩ | ⟨h1, h2, h3⟩)
    · exact ⟨i, List.mem_range.2 h1, by rw [List.mem_append]; left; simp [h2]⟩
    · exact ⟨i - n, List.mem_range.2 (by omega), by rw [List.mem_append]; right; simp [h3]; omega⟩
theorem litsK_len (n : Nat) (c : Cla) : ∀ k, (litsK n c k).length = bitSum k c.1 + bitSum k c.2
  | 0 => rfl
  | k + 1 => by
    rw [litsK_succ, List.length_append, List.length_append, litsK_len n c k, bitSum, bitSum]
    cases c.1.testBit k <;> cases c.2.testBit k <;> simp <;> omega
theorem bitSum_moreT {n x : Nat} (h : x < one n) : ∀ d, bitSum (n + d) x = bitSum n x
  | 0 => rfl
  | d + 1 => by
    rw [← Nat.add_assoc, bitSum, bitSum_moreT h d]
    have : x.testBit (n + d) = false := by
      cases e : x.testBit (n + d) with
      | false => rfl
      | true => have := bit_lt h e; omega
    rw [this]
    rfl
theorem pop_bits {n x : Nat} (hn : n ≤ 32) (h : x < one n) : pop x = bitSum n x := by
  unfold pop
  have := bitSum_moreT h (32 - n)
  rw [show n + (32 - n) = 32 by omega] at this
  exact this
theorem lits_size {n : Nat} {c : Cla} (hn : n ≤ 32) (h1 : c.1 < one n) (h2 : c.2 < one n) : (litsK n c n).length = pop c.1 + pop c.2 := by
  rw [litsK_len, pop_bits hn h1, pop_bits hn h2]

/-- The other literal of the same variable. -/
def neg (n i : Nat) : Nat := if i < n then i + n else i - n
theorem neg_lt {n i : Nat} (h : i < n + n) : neg n i < n + n := by unfold neg; split <;> omega
theorem neg_neg {n i : Nat} (h : i < n + n) : neg n (neg n i) = i := by unfold neg; split <;> split <;> omega
theorem neg_ne {n i : Nat} (h : i < n + n) : neg n i ≠ i := by unfold neg; split <;> omega
/-- Does a clause with these literals lead from the other one of q to j? -/
def saidL (L : List Nat) (q j : Nat) : Bool := if L.length = 1 then (L.getD 0 0 == q && L.getD 0 0 == j) else (L.getD 0 0 == q && L.getD 1 0 == j) || (L.getD 1 0 == q && L.getD 0 0 == j)
def saidB (n : Nat) (c : Cla) (i j : Nat) : Bool := saidL (litsK n c n) (neg n i) j
/-- Is a literal so of s? -/
def litT (n s i : Nat) : Bool := if i < n then s.testBit i else !s.testBit (i - n)
theorem litT_neg {n s i : Nat} (h : i < n + n) : litT n s (neg n i) = !litT n s i := by
  unfold litT neg
  by_cases h1 : i < n
  · rw [if_pos h1, if_pos h1, if_neg (by omega), Nat.add_sub_cancel]
  · rw [if_neg h1, if_neg h1, if_pos (by omega), Bool.not_not]
theorem hold_lits {n : Nat} {c : Cla} {s : Nat} (h1 : c.1 < one n) (h2 : c.2 < one n) : holdB c s = (litsK n c n).any (litT n s) := by
  rw [Bool.eq_iff_iff, hold_iff, List.any_eq_true]
  constructor
  · rintro (⟨i, a, b⟩ | ⟨i, a, b⟩)
    · have := bit_lt h1 a
      exact ⟨i, (mem_lits (Nat.le_refl n)).2 (.inl ⟨this, a⟩), by unfold litT; rw [if_pos this]; exact b⟩
    · have := bit_lt h2 a
      exact ⟨i + n, (mem_lits (Nat.le_refl n)).2 (.inr ⟨by omega, by omega, by rw [Nat.add_sub_cancel]; exact a⟩), by unfold litT; rw [if_neg (by omega), Nat.add_sub_cancel, b]; rfl⟩
  · rintro ⟨i, hi, ht⟩
    rcases (mem_lits (Nat.le_refl n)).1 hi with ⟨a, b⟩ | ⟨a, b, d⟩
    · unfold litT at ht; rw [if_pos a] at ht; exact .inl ⟨i, b, ht⟩
    · unfold litT at ht; rw [if_neg (by omega)] at ht; exact .inr ⟨i - n, d, by simpa using ht⟩
/-- Has each clause one literal or two? -/
def twoB (l : List Cla) : Bool := l.all fun c => decide (1 ≤ pop c.1 + pop c.2 ∧ pop c.1 + pop c.2 ≤ 2)
theorem two_iff {l : List Cla} : twoB l = true ↔ ∀ c ∈ l, 1 ≤ pop c.1 + pop c.2 ∧ pop c.1 + pop c.2 ≤ 2 := by unfold twoB; rw [List.all_eq_true]; simp
theorem good_pair {n : Nat} {c : Cla} (hn : n ≤ 32) (h1 : c.1 < one n) (h2 : c.2 < one n) (h3 : 1 ≤ pop c.1 + pop c.2 ∧ pop c.1 + pop c.2 ≤ 2) :
    ∃ x y, x < n + n ∧ y < n + n ∧ (∀ s, holdB c s = (litT n s x || litT n s y)) ∧ ∀ i j, saidB n c i j = true ↔ (x = neg n i ∧ y = j) ∨ (y = neg n i ∧ x = j) := by
  have hs := lits_size hn h1 h2
  have hm : ∀ i ∈ litsK n c n, i < n + n := fun i hi => by
    rcases (mem_lits (Nat.le_refl n)).1 hi with h | h <;> omega
  have hh := fun s => hold_lits (s := s) h1 h2
  unfold saidB
  generalize litsK n c n = L at *
  match L, hs with
  | [], hs => simp at hs; omega
  | [a], _ =>
    refine ⟨a, a, hm a (by simp), hm a (by simp), fun s => by rw [hh]; simp, fun i j => ?_⟩
    simp [saidL]
  | [a, b], _ =>
    refine ⟨a, b, hm a (by simp), hm b (by simp), fun s => by rw [hh]; simp, fun i j => ?_⟩
    simp [saidL]
  | a :: b :: d :: r, hs => simp at hs; omega

/-! ## Coming from literal to literal -/
def stepB (n : Nat) (l : List Cla) (i j : Nat) : Bool := l.any fun c => saidB n c i j
theorem step_iff {n : Nat} {l : List Cla} {i j : Nat} : stepB n l i j = true ↔ ∃ c ∈ l, saidB n c i j = true := by unfold stepB; rw [List.any_eq_true]
inductive Rch (n : Nat) (l : List Cla) (i : Nat) : Nat → Prop
  | here : Rch n l i i
  | more {j k : Nat} : Rch n l i j → stepB n l j k = true → Rch n l i k
theorem Rch.trans {n : Nat} {l : List Cla} {i j k : Nat} (h : Rch n l i j) (h2 : Rch n l j k) : Rch n l i k := by
  induction h2 with
  | here => exact h
  | more _ hs ih => exact .more ih hs
/-- Clauses that may be. -/
structure TwoOk (n : Nat) (l : List Cla) : Prop where
  n32 : n ≤ 32
  fit : FitR n l
  two : twoB l = true
theorem TwoOk.pair {n : Nat} {l : List Cla} (h : TwoOk n l) {c : Cla} (hc : c ∈ l) : ∃ x y, x < n + n ∧ y < n + n ∧ (∀ s, holdB c s = (litT n s x || litT n s y)) ∧ ∀ i j, saidB n c i j = true ↔ (x = neg n i ∧ y = j) ∨ (y = neg n i ∧ x = j) :=
  good_pair h.n32 (h.fit c hc).1 (h.fit c hc).2 (two_iff.1 h.two c hc)
theorem TwoOk.step_lt {n : Nat} {l : List Cla} (h : TwoOk n l) {i j : Nat} (hs : stepB n l i j = true) : j < n + n := by
  obtain ⟨c, hc, hs⟩ := step_iff.1 hs
  obtain ⟨x, y, hx, hy, _, hk⟩ := h.pair hc
  rcases (hk i j).1 hs with ⟨_, rfl⟩ | ⟨_, rfl⟩
  · exact hy
  · exact hx
theorem TwoOk.rch_lt {n : Nat} {l : List Cla} (h : TwoOk n l) {i j : Nat} (hi : i < n + n) (hr : Rch n l i j) : j < n + n := by
  cases hr with
  | here => exact hi
  | more _ hs => exact h.step_lt hs
theorem TwoOk.step_turn {n : Nat} {l : List Cla} (h : TwoOk n l) {i j : Nat} (_hi : i < n + n) (hs : stepB n l i j = true) : stepB n l (neg n j) (neg n i) = true := by
  have hj := h.step_lt hs
  obtain ⟨c, hc, hs⟩ := step_iff.1 hs
  obtain ⟨x, y, _, _, _, hk⟩ := h.pair hc
  refine step_iff.2 ⟨c, hc, (hk _ _).2 ?_⟩
  rw [neg_neg hj]
  rcases (hk i j).1 hs with ⟨a, b⟩ | ⟨a, b⟩
  · exact .inr ⟨b, a⟩
  · exact .inl ⟨b, a⟩
theorem TwoOk.turn {n : Nat} {l : List Cla} (h : TwoOk n l) {i j : Nat} (hi : i < n + n) (hr : Rch n l i j) : Rch n l (neg n j) (neg n i) := by
  induction hr with
  | here => exact .here
  | more h1 hs ih => exact (Rch.more .here (h.step_turn (h.rch_lt hi h1) hs)).trans ih
theorem TwoOk.sound {n : Nat} {l : List Cla} (h : TwoOk n l) {s i j : Nat} (hi : i < n + n) (ht : trueB l s = true) (hr : Rch n l i j) (hl : litT n s i = true) : litT n s j = true := by
  induction hr with
  | here => exact hl
  | more h1 hs ih =>
    have hj := h.rch_lt hi h1
    obtain ⟨c, hc, hs⟩ := step_iff.1 hs
    obtain ⟨x, y, _, _, hh, hk⟩ := h.pair hc
    have h2 := true_iff.1 ht c hc
    rw [hh] at h2
    rcases (hk _ _).1 hs with ⟨a, b⟩ | ⟨a, b⟩
    · rw [a, litT_neg hj, ih, b] at h2
      simpa using h2
    · rw [a, litT_neg hj, ih, b] at h2
      simpa using h2

/-! ## Krom -/
theorem TwoOk.build {n : Nat} {l : List Cla} (h : TwoOk n l) (hno : ∀ v, v < n → ¬ (Rch n l v (v + n) ∧ Rch n l (v + n) v)) :
    ∀ k, k ≤ n → ∃ S : Nat → Prop, (∀ i, S i → i < n + n) ∧ (∀ i, S i → ¬ S (neg n i)) ∧ (∀ i j, S i → stepB n l i j = true → S j) ∧ ∀ v, v < k → S v ∨ S (v + n) := by
  intro k
  induction k with
  | zero => intro _; exact ⟨fun _ => False, by simp, by simp, by simp, fun v hv => by omega⟩
  | succ k ih =>
    intro hk
    obtain ⟨S, s1, s2, s3, s4⟩ := ih (by omega)
    by_cases hd : S k ∨ S (k + n)
    · refine ⟨S, s1, s2, s3, fun v hv => ?_⟩
      by_cases e : v = k
      · subst e; exact hd
      · exact s4 v (by omega)
    · obtain ⟨x, hx, hxn⟩ : ∃ x, (x = k ∨ x = k + n) ∧ ¬ Rch n l x (neg n x) := by
        by_cases h1 : Rch n l k (k + n)
        · refine ⟨k + n, .inr rfl, fun h2 => hno k (by omega) ⟨h1, ?_⟩⟩
          have e : neg n (k + n) = k := by unfold neg; rw [if_neg (by omega)]; omega
          rw [e] at h2
          exact h2
        · refine ⟨k, .inl rfl, fun h2 => h1 ?_⟩
          have e : neg n k = k + n := by unfold neg; rw [if_pos (by omega)]
          rw [e] at h2
          exact h2
      have hx2 : x < n + n := by omega
      have hnx : ¬ S (neg n x) := by
        intro hs
        apply hd
        rcases hx with rfl | rfl
        · have e : neg n x = x + n := by unfold neg; rw [if_pos (by omega)]
          rw [e] at hs; exact .inr hs
        · have e : neg n (k + n) = k := by unfold neg; rw [if_neg (by omega)]; omega
          rw [e] at hs; exact .inl hs
      have s5 : ∀ i j, S i → Rch n l i j → S j := by
        intro i j hi hr
        induction hr with
        | here => exact hi
        | more _ hs ih => exact s3 _ _ ih hs
      refine ⟨fun i => S i ∨ Rch n l x i, ?_, ?_, ?_, ?_⟩
      · rintro i (hi | hi)
        · exact s1 i hi
        · exact h.rch_lt hx2 hi
      · rintro i (hi | hi) (hj | hj)
        · exact s2 i hi hj
        · have := h.turn hx2 hj
          rw [neg_neg (s1 i hi)] at this
          exact hnx (s5 _ _ hi this)
        · exact hnx (s5 _ _ hj (h.turn hx2 hi))
        · have hi2 := h.rch_lt hx2 hi
          have := h.turn hx2 hj
          rw [neg_neg hi2] at this
          exact hxn (hi.trans this)
      · rintro i j (hi | hi) hs
        · exact .inl (s3 i j hi hs)
        · exact .inr (.more hi hs)
      · intro v hv
        by_cases e : v = k
        · subst e
          rcases hx with rfl | rfl
          · exact .inl (.inr .here)
          · exact .inr (.inr .here)
        · rcases s4 v (by omega) with h1 | h1
          · exact .inl (.inl h1)
          · exact .inr (.inl h1)
open Classical in
theorem TwoOk.krom {n : Nat} {l : List Cla} (h : TwoOk n l) (hno : ∀ v, v < n → ¬ (Rch n l v (v + n) ∧ Rch n l (v + n) v)) : ∃ s, s < one n ∧ trueB l s = true := by
  obtain ⟨S, s1, s2, s3, s4⟩ := h.build hno n (Nat.le_refl _)
  refine ⟨wordOf n fun v => decide (S v), wordOf_lt _ _, true_iff.2 fun c hc => ?_⟩
  have key : ∀ i, i < n + n → (litT n (wordOf n fun v => decide (S v)) i = true ↔ S i) := by
    intro i hi
    unfold litT
    by_cases h1 : i < n
    · rw [if_pos h1, testBit_wordOf]
      simp [h1]
    · rw [if_neg h1, testBit_wordOf]
      have h2 : i - n < n := by omega
      simp [h2]
      constructor
      · intro hns
        rcases s4 (i - n) h2 with h3 | h3
        · exact absurd h3 hns
        · rw [Nat.sub_add_cancel (by omega)] at h3; exact h3
      · intro hs h3
        have e : neg n (i - n) = i := by unfold neg; rw [if_pos h2]; omega
        exact s2 _ h3 (by rw [e]; exact hs)
  have dec : ∀ i, i < n + n → S i ∨ S (neg n i) := by
    intro i hi
    by_cases h1 : i < n
    · have e : neg n i = i + n := by unfold neg; rw [if_pos h1]
      rw [e]; exact s4 i h1
    · have e : neg n i = i - n := by unfold neg; rw [if_neg h1]
      rw [e]
      rcases s4 (i - n) (by omega) with h3 | h3
      · exact .inr h3
      · rw [Nat.sub_add_cancel (by omega)] at h3; exact .inl h3
  obtain ⟨x, y, hx, hy, hh, hk⟩ := h.pair hc
  rw [hh, Bool.or_eq_true_iff]
  rcases dec x hx with h1 | h1
  · exact .inl ((key x hx).2 h1)
  · right
    apply (key y hy).2
    refine s3 (neg n x) y h1 (step_iff.2 ⟨c, hc, (hk _ _).2 (.inl ⟨?_, rfl⟩)⟩)
    rw [neg_neg hx]

/-! ## The sets -/
open Classical in
/-- Where one comes to from a literal. -/
noncomputable def reachW (n : Nat) (l : List Cla) (i : Nat) : Nat := wordOf (n + n) fun j => decide (Rch n l i j)
theorem mem_reach {n : Nat} {l : List Cla} {i j : Nat} : (reachW n l i).testBit j = true ↔ j < n + n ∧ Rch n l i j := by
  unfold reachW; rw [testBit_wordOf]; simp
theorem reachW_lt (n : Nat) (l : List Cla) (i : Nat) : reachW n l i < one (n + n) := wordOf_lt _ _
noncomputable def stuckP (n : Nat) (l : List Cla) (v : Nat) : Bool := (reachW n l v).testBit (v + n) && (reachW n l (v + n)).testBit v
/-- The variables that are stuck. -/
noncomputable def stuckW (n : Nat) (l : List Cla) : Nat := wordOf n (stuckP n l)
theorem stuckW_lt (n : Nat) (l : List Cla) : stuckW n l < one n := wordOf_lt _ _
theorem stuck_iff {n : Nat} {l : List Cla} {v : Nat} (hv : v < n) : stuckP n l v = true ↔ Rch n l v (v + n) ∧ Rch n l (v + n) v := by
  unfold stuckP
  rw [Bool.and_eq_true_iff, mem_reach, mem_reach]
  constructor
  · rintro ⟨a, b⟩; exact ⟨a.2, b.2⟩
  · rintro ⟨a, b⟩; exact ⟨⟨by omega, a⟩, ⟨by omega, b⟩⟩
theorem TwoOk.stuck {n : Nat} {l : List Cla} (h : TwoOk n l) : stuckW n l = 0 ↔ firstS n l ≠ none := by
  constructor
  · intro h0 hn
    obtain ⟨s, hs, ht⟩ := h.krom fun v hv k => by
      have : (stuckW n l).testBit v = true := by unfold stuckW; rw [testBit_wordOf]; simp [hv, (stuck_iff hv).2 k]
      rw [h0] at this
      simp at this
    rw [first_none.1 hn s hs] at ht
    cases ht
  · intro hn
    cases e : firstS n l with
    | none => exact absurd e hn
    | some s =>
      obtain ⟨hs, ht, _⟩ := first_some.1 e
      apply Nat.eq_of_testBit_eq
      intro v
      rw [Nat.zero_testBit]
      cases hb : (stuckW n l).testBit v with
      | false => rfl
      | true =>
        exfalso
        unfold stuckW at hb
        rw [testBit_wordOf, Bool.and_eq_true_iff, decide_eq_true_iff] at hb
        obtain ⟨hv, hb⟩ := hb
        obtain ⟨k1, k2⟩ := (stuck_iff hv).1 hb
        have e1 : neg n v = v + n := by unfold neg; rw [if_pos hv]
        have n1 := litT_neg (n := n) (s := s) (i := v) (by omega)
        rw [e1] at n1
        cases hlv : litT n s v with
        | true =>
          have := h.sound (by omega) ht k1 hlv
          rw [n1, hlv] at this
          cases this
        | false =>
          have h2 : litT n s (v + n) = true := by rw [n1, hlv]; rfl
          have := h.sound (by omega) ht k2 h2
          rw [hlv] at this
          cases this

/-- The code. -/
noncomputable def codeD (n : Int) (l : List Cla) : Int := if codeC n l = 0 then (if twoB l = true then 0 else 3) else codeC n l
theorem codeD_err {n : Int} {l : List Cla} (h : codeC n l ≠ 0) : codeD n l = codeC n l := by simp [codeD, h]
theorem codeD_form {n : Int} {l : List Cla} (h : codeC n l = 0) (k : twoB l = false) : codeD n l = 3 := by simp [codeD, h, k]
theorem codeD_ok {n : Int} {l : List Cla} (h : codeC n l = 0) (k : twoB l = true) : codeD n l = 0 := by simp [codeD, h, k]
theorem codeD_zero {n : Int} {l : List Cla} (h : codeD n l = 0) : ∃ k : Nat, n = k ∧ 1 ≤ k ∧ k ≤ 6 ∧ l.length ≤ 16 ∧ TwoOk k l ∧ codeC n l = 0 := by
  by_cases h0 : codeC n l = 0
  · cases h1 : twoB l with
    | false => rw [codeD_form h0 h1] at h; omega
    | true =>
      obtain ⟨k, e, a, b, c, d⟩ := codeC_zero h0
      exact ⟨k, e, a, b, c, ⟨by omega, d, h1⟩, h0⟩
  · rw [codeD_err h0] at h; exact absurd h h0

end Go.Proofs.YtekeeodnjlebcaaDoor
