/- Plain mathematics: how the products of one number of variables give those of one fewer, and which of them are prime. -/
import Derived.Test.YtcokpjffgeihbaaQuine
import Derived.Test.YtcokpjffgeihbaaWTo2
namespace Go.Proofs.Ytcokpjffgeihbaa
open Go.RowKit

/-- The same product with a variable's sign turned. -/
def oppP (p : Nat × Nat) (v : Nat) : Nat × Nat := (p.1 ^^^ one v, p.2 ^^^ one v)
/-- The product without a variable. -/
def lessP (p : Nat × Nat) (v : Nat) : Nat × Nat := (wo p.1 (one v), wo p.2 (one v))
/-- How many variables a product has. -/
def lits (p : Nat × Nat) : Nat := pop (p.1 ||| p.2)
def allN (k : Nat) (f : Nat → Bool) : Bool := (List.range k).all f
theorem allN_at {k : Nat} {f : Nat → Bool} (h : allN k f = true) {i : Nat} (hi : i < k) : f i = true := (List.all_eq_true.1 h) i (List.mem_range.2 hi)

theorem levA : allN 16 (fun y => allN 16 fun no => allN 4 fun v => !((y &&& no) == 0) || !(y ||| no).testBit v || allN 16 fun s => covB s (lessP (y, no) v) == (covB s (y, no) || covB s (oppP (y, no) v))) = true := by decide +kernel
theorem levB : allN 16 (fun y => allN 16 fun no => allN 4 fun v => !((y &&& no) == 0) || (y ||| no).testBit v || !((oppP (y, no) v).1 &&& (oppP (y, no) v).2 == 0)) = true := by decide +kernel
theorem levC : allN 16 (fun y => allN 16 fun no => allN 4 fun v => !((y &&& no) == 0) || !(y ||| no).testBit v || (((oppP (y, no) v).1 &&& (oppP (y, no) v).2 == 0) && ((lessP (y, no) v).1 &&& (lessP (y, no) v).2 == 0) && lits (oppP (y, no) v) == lits (y, no) && lits (lessP (y, no) v) + 1 == lits (y, no))) = true := by decide +kernel
theorem levD : allN 16 (fun y => allN 16 fun no => allN 4 fun v => !((y &&& no) == 0) || (y ||| no).testBit v || ((((y ||| one v) &&& no) == 0) && ((y ||| one v) ||| no).testBit v && lessP (y ||| one v, no) v == (y, no) && lits (y ||| one v, no) == lits (y, no) + 1)) = true := by decide +kernel
theorem levE : allN 5 (fun n => allN (one n) fun x => decide (n ≤ pop x) || !allN n (fun v => x.testBit v)) = true := by decide +kernel
theorem levF : allN 5 (fun n => allN (one n) fun y => allN (one n) fun no => !((y &&& no) == 0) || (lits (y, no) == n) == (no == full n - y)) = true := by decide +kernel
theorem levG : allN 5 (fun n => allN (one n) fun y => (y &&& (full n - y) == 0) && allN (one n) fun s => covB s (y, full n - y) == (s == y)) = true := by decide +kernel
theorem levH : allN 5 (fun n => allN (one n) fun y => allN n fun v => decide (y ^^^ one v < one n) && decide (y ||| one v < one n)) = true := by decide +kernel

/-- A product that is true only where the table is. -/
def Imp (n : Nat) (F : Nat → Bool) (p : Nat × Nat) : Prop := p.1 < one n ∧ p.2 < one n ∧ (p.1 &&& p.2 == 0) = true ∧ prodB F p.1 p.2 (one n) = true
theorem xor_lt_one {n y v : Nat} (hn : n ≤ 4) (hy : y < one n) (hv : v < n) : y ^^^ one v < one n ∧ y ||| one v < one n := by
  have := allN_at (allN_at (allN_at levH (show n < 5 by omega)) hy) hv
  simpa using this
section
variable {n : Nat} {F : Nat → Bool} {p : Nat × Nat} {v : Nat}
theorem lev16 (hn : n ≤ 4) (h : Imp n F p) : p.1 < 16 ∧ p.2 < 16 := by
  have := one_le_16 hn
  exact ⟨by have := h.1; omega, by have := h.2.1; omega⟩
theorem imp_less (hn : n ≤ 4) (h : Imp n F p) (hv : v < n) (hb : (p.1 ||| p.2).testBit v = true) : Imp n F (lessP p v) ↔ Imp n F (oppP p v) := by
  have h16 := one_le_16 hn
  obtain ⟨k1, k2⟩ := lev16 hn h
  have hA := allN_at (allN_at (allN_at levA k1) k2) (show v < 4 by omega)
  have hC := allN_at (allN_at (allN_at levC k1) k2) (show v < 4 by omega)
  obtain ⟨h1, h2, h3, h4⟩ := h
  simp only [h3, hb, Bool.not_true, Bool.false_or, Bool.and_eq_true] at hA hC
  have hcov : ∀ s, s < one n → covB s (lessP p v) = (covB s p || covB s (oppP p v)) := fun s hs => by
    have := allN_at hA (show s < 16 by omega)
    simpa using this
  have x1 := (xor_lt_one hn h1 hv).1
  have x2 := (xor_lt_one hn h2 hv).1
  constructor
  · rintro ⟨_, _, _, g⟩
    refine ⟨x1, x2, hC.1.1.1, prodB_iff.2 fun s hs hc => ?_⟩
    refine prodB_iff.1 g s hs ?_
    have e := hcov s hs
    have hc' : covB s (oppP p v) = true := hc
    rw [hc', Bool.or_true] at e
    exact e
  · rintro ⟨_, _, _, g⟩
    refine ⟨Nat.lt_of_le_of_lt (wo_le _ _) h1, Nat.lt_of_le_of_lt (wo_le _ _) h2, hC.1.1.2, prodB_iff.2 fun s hs hc => ?_⟩
    have hc' : covB s (lessP p v) = true := hc
    rw [hcov s hs, Bool.or_eq_true] at hc'
    rcases hc' with h5 | h5
    · exact prodB_iff.1 h4 s hs h5
    · exact prodB_iff.1 g s hs h5
/-- The products of one number of variables. -/
def LevL (n : Nat) (F : Nat → Bool) (d : Nat) (l : List (Nat × Nat)) : Prop := ∀ p, p ∈ l ↔ Imp n F p ∧ lits p + d = n
theorem opp_lev {d : Nat} {l : List (Nat × Nat)} (hn : n ≤ 4) (hl : LevL n F d l) (hp : p ∈ l) (hv : v < n) : oppP p v ∈ l ↔ (p.1 ||| p.2).testBit v = true ∧ Imp n F (lessP p v) := by
  obtain ⟨hi, hd⟩ := (hl p).1 hp
  obtain ⟨k1, k2⟩ := lev16 hn hi
  cases hb : (p.1 ||| p.2).testBit v with
  | false =>
    have hB := allN_at (allN_at (allN_at levB k1) k2) (show v < 4 by omega)
    simp only [hi.2.2.1, hb, Bool.not_true, Bool.false_or] at hB
    constructor
    · intro h
      have := ((hl _).1 h).1.2.2.1
      rw [this] at hB
      cases hB
    · rintro ⟨h, _⟩; cases h
  | true =>
    rw [imp_less hn hi hv hb, hl]
    have hC := allN_at (allN_at (allN_at levC k1) k2) (show v < 4 by omega)
    simp only [hi.2.2.1, hb, Bool.not_true, Bool.false_or, Bool.and_eq_true, beq_iff_eq] at hC
    have e : lits (oppP p v) = lits p := hC.1.2
    rw [e]
    constructor
    · rintro ⟨h, _⟩; exact ⟨rfl, h⟩
    · rintro ⟨_, h⟩; exact ⟨h, hd⟩
theorem less_bits {d : Nat} {l : List (Nat × Nat)} (hn : n ≤ 4) (hl : LevL n F d l) (hp : p ∈ l) (hv : v < n) (h : oppP p v ∈ l) : Imp n F (lessP p v) ∧ lits (lessP p v) + (d + 1) = n := by
  obtain ⟨hb, hi⟩ := (opp_lev hn hl hp hv).1 h
  obtain ⟨hi0, hd⟩ := (hl p).1 hp
  obtain ⟨k1, k2⟩ := lev16 hn hi0
  have hC := allN_at (allN_at (allN_at levC k1) k2) (show v < 4 by omega)
  simp only [hi0.2.2.1, hb, Bool.not_true, Bool.false_or, Bool.and_eq_true, beq_iff_eq] at hC
  have e : lits (lessP p v) + 1 = lits p := hC.2
  exact ⟨hi, by omega⟩
theorem prime_lev {d : Nat} {l : List (Nat × Nat)} (hn : n ≤ 4) (hl : LevL n F d l) (hp : p ∈ l) : p ∈ primL n F (one n) ↔ ∀ v, v < n → oppP p v ∉ l := by
  obtain ⟨hi, hd⟩ := (hl p).1 hp
  rw [mem_primL]
  unfold primeB
  rw [hi.2.2.1, hi.2.2.2, Bool.true_and, Bool.true_and]
  unfold primV
  rw [List.all_eq_true]
  constructor
  · rintro ⟨_, _, h⟩ v hv ho
    obtain ⟨hb, hless⟩ := (opp_lev hn hl hp hv).1 ho
    have h1 := h v (List.mem_range.2 hv)
    rw [hb] at h1
    have h2 : prodB F (wo p.1 (one v)) (wo p.2 (one v)) (one n) = true := hless.2.2.2
    rw [h2] at h1
    cases h1
  · intro h
    refine ⟨hi.1, hi.2.1, fun v hv => ?_⟩
    rw [List.mem_range] at hv
    cases hb : (p.1 ||| p.2).testBit v with
    | false => rfl
    | true =>
      cases hq : prodB F (wo p.1 (one v)) (wo p.2 (one v)) (one n) with
      | false => rfl
      | true =>
        have h16 := lev16 hn hi
        have hC := allN_at (allN_at (allN_at levC h16.1) h16.2) (show v < 4 by omega)
        simp only [hi.2.2.1, hb, Bool.not_true, Bool.false_or, Bool.and_eq_true] at hC
        exact absurd ((opp_lev hn hl hp hv).2 ⟨hb, Nat.lt_of_le_of_lt (wo_le _ _) hi.1, Nat.lt_of_le_of_lt (wo_le _ _) hi.2.1, hC.1.1.2, hq⟩) (h v hv)
theorem prim_imp (h : p ∈ primL n F (one n)) : Imp n F p := by
  rw [mem_primL] at h
  obtain ⟨h1, h2, h3⟩ := h
  unfold primeB at h3
  rw [Bool.and_eq_true, Bool.and_eq_true] at h3
  exact ⟨h1, h2, h3.1.1, h3.1.2⟩
/-- With a variable that it lacks, a product is one of one variable more. -/
theorem imp_more (hn : n ≤ 4) (h : Imp n F p) (hlt : lits p < n) : ∃ q v, v < n ∧ Imp n F q ∧ lits q = lits p + 1 ∧ lessP q v = p ∧ (q.1 ||| q.2).testBit v = true := by
  obtain ⟨k1, k2⟩ := lev16 hn h
  have hE := allN_at (allN_at levE (show n < 5 by omega)) (or_lt_one h.1 h.2.1)
  have hp0 : ¬ n ≤ pop (p.1 ||| p.2) := by unfold lits at hlt; omega
  simp only [hp0, decide_false, Bool.false_or, Bool.not_eq_true'] at hE
  obtain ⟨v, hv, hb⟩ : ∃ v, v < n ∧ (p.1 ||| p.2).testBit v = false := by
    unfold allN at hE
    rw [List.all_eq_false] at hE
    obtain ⟨v, h1, h2⟩ := hE
    exact ⟨v, List.mem_range.1 h1, by simpa using h2⟩
  have hD := allN_at (allN_at (allN_at levD k1) k2) (show v < 4 by omega)
  simp only [h.2.2.1, hb, Bool.not_true, Bool.false_or, Bool.and_eq_true] at hD
  obtain ⟨⟨⟨d1, d2⟩, d3⟩, d4⟩ := hD
  rw [beq_iff_eq] at d3 d4
  refine ⟨(p.1 ||| one v, p.2), v, hv, ⟨(xor_lt_one hn h.1 hv).2, h.2.1, d1, prodB_iff.2 fun s hs hc => ?_⟩, d4, d3, d2⟩
  refine prodB_iff.1 h.2.2.2 s hs ?_
  unfold covB at hc ⊢
  simp only [Bool.and_eq_true] at hc ⊢
  exact ⟨sub_trans (sub_iff.2 fun i hi => by rw [Nat.testBit_or, hi, Bool.true_or]) hc.1, hc.2⟩
theorem less_lev {d : Nat} {l : List (Nat × Nat)} (hn : n ≤ 4) (hl : LevL n F d l) (q : Nat × Nat) : (∃ p ∈ l, ∃ v, v < n ∧ oppP p v ∈ l ∧ q = lessP p v) ↔ Imp n F q ∧ lits q + (d + 1) = n := by
  constructor
  · rintro ⟨p, hp, v, hv, ho, rfl⟩
    exact less_bits hn hl hp hv ho
  · rintro ⟨hq, hd⟩
    obtain ⟨p, v, hv, hp, hlp, hpq, hb⟩ := imp_more hn hq (by omega)
    have hpl : p ∈ l := (hl p).2 ⟨hp, by omega⟩
    exact ⟨p, hpl, v, hv, (opp_lev hn hl hpl hv).2 ⟨hb, by rw [hpq]; exact hq⟩, hpq.symm⟩
theorem full_lev (hn : n ≤ 4) (q : Nat × Nat) : (∃ s, s < one n ∧ F s = true ∧ q = (s, full n - s)) ↔ Imp n F q ∧ lits q + 0 = n := by
  constructor
  · rintro ⟨s, hs, hF, rfl⟩
    have hG := allN_at (allN_at levG (show n < 5 by omega)) hs
    rw [Bool.and_eq_true] at hG
    have hc : full n - s < one n := comp_lt
    have hFl := allN_at (allN_at (allN_at levF (show n < 5 by omega)) hs) hc
    simp only [hG.1, Bool.not_true, Bool.false_or, beq_self_eq_true, beq_iff_eq] at hFl
    refine ⟨⟨hs, hc, hG.1, prodB_iff.2 fun t ht hct => ?_⟩, by simpa using hFl⟩
    have := allN_at hG.2 ht
    rw [hct] at this
    have : t = s := by simpa using this
    rw [this]; exact hF
  · rintro ⟨hq, hd⟩
    have hFl := allN_at (allN_at (allN_at levF (show n < 5 by omega)) hq.1) hq.2.1
    simp only [hq.2.2.1, Bool.not_true, Bool.false_or] at hFl
    have hl : (lits (q.1, q.2) == n) = true := by rw [beq_iff_eq]; simpa using hd
    rw [hl] at hFl
    have h2 : q.2 = full n - q.1 := by simpa using hFl
    refine ⟨q.1, hq.1, ?_, Prod.ext rfl h2⟩
    have hG := allN_at (allN_at levG (show n < 5 by omega)) hq.1
    rw [Bool.and_eq_true] at hG
    refine prodB_iff.1 hq.2.2.2 q.1 hq.1 ?_
    have := allN_at hG.2 hq.1
    rw [h2]
    simpa using this
theorem lev_end (hn : n ≤ 4) : ∀ (e d : Nat), LevL n F d [] → ∀ p, Imp n F p → ¬ lits p + (d + e) = n
  | 0, d, hl, p, hp, h => by
    have := (hl p).2 ⟨hp, h⟩
    cases this
  | e + 1, d, hl, p, hp, h => by
    obtain ⟨q, v, hv, hq, hlq, _⟩ := imp_more hn hp (by omega)
    exact lev_end hn e d hl q hq (by omega)
/-- The primes of more than so many variables. -/
def PrsL (n : Nat) (F : Nat → Bool) (d : Nat) (l : List (Nat × Nat)) : Prop := l.Nodup ∧ ∀ p, p ∈ l ↔ p ∈ primL n F (one n) ∧ n < lits p + d
theorem lits_le (hn : n ≤ 4) (h : Imp n F p) : lits p ≤ n := by
  have h1 := or_lt_one h.1 h.2.1
  have : pop (p.1 ||| p.2) = bitSum n (p.1 ||| p.2) := by
    unfold pop
    have := bitSum_more (m := n) (x := p.1 ||| p.2) h1 (32 - n)
    rw [show n + (32 - n) = 32 by omega] at this
    exact this
  unfold lits
  rw [this]
  exact bitSum_le _ _
theorem prs_zero (hn : n ≤ 4) : PrsL n F 0 [] := ⟨List.nodup_nil, fun p => ⟨fun h => (by cases h), fun ⟨h1, h2⟩ => by have := lits_le hn (prim_imp h1); omega⟩⟩
theorem prs_more {d : Nat} {l prs pl : List (Nat × Nat)} (hl : LevL n F d l) (hP : PrsL n F d prs) (h1 : pl.Nodup) (h2 : ∀ p, p ∈ pl ↔ p ∈ l ∧ p ∈ primL n F (one n)) : PrsL n F (d + 1) (prs ++ pl) := by
  refine ⟨List.nodup_append.2 ⟨hP.1, h1, ?_⟩, fun p => ?_⟩
  · rintro a ha c hc rfl
    have h3 := ((hP.2 a).1 ha).2
    have h4 := ((hl a).1 ((h2 a).1 hc).1).2
    omega
  · rw [List.mem_append, hP.2, h2, hl]
    constructor
    · rintro (⟨h3, h4⟩ | ⟨⟨h3, h4⟩, h5⟩)
      · exact ⟨h3, by omega⟩
      · exact ⟨h5, by omega⟩
    · rintro ⟨h3, h4⟩
      by_cases h5 : n < lits p + d
      · exact .inl ⟨h3, h5⟩
      · exact .inr ⟨⟨prim_imp h3, by omega⟩, h3⟩
theorem prs_all {d : Nat} {prs : List (Nat × Nat)} (hn : n ≤ 4) (hl : LevL n F d []) (hP : PrsL n F d prs) (p : Nat × Nat) : p ∈ prs ↔ p ∈ primL n F (one n) := by
  rw [hP.2]
  constructor
  · exact fun h => h.1
  · intro h
    refine ⟨h, ?_⟩
    rcases Nat.lt_or_ge n (lits p + d) with h1 | h1
    · exact h1
    · exact absurd (show lits p + (d + (n - (lits p + d))) = n by omega) (lev_end hn _ d hl p (prim_imp h))
end

end Go.Proofs.Ytcokpjffgeihbaa
