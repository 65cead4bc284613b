/- Plain mathematics of package two: a clause's least and greatest literal, and the table of what is reached. -/
import Derived.Test.YtekeeodnjlebcaaDoorTw
import Derived.Lib.BitFns
import Derived.Lib.TrailingZeros
import Derived.Lib.ItoaNum
namespace Go.Proofs.YtekeeodnjlebcaaDoor
open Go.RowKit

/-- The literals of a clause, as a word. -/
def litW (n : Nat) (c : Cla) : Nat := c.1 ||| c.2 * 2 ^ n
theorem litW_bit {n : Nat} {c : Cla} (h1 : c.1 < one n) (i : Nat) : (litW n c).testBit i = true ↔ (i < n ∧ c.1.testBit i = true) ∨ (n ≤ i ∧ c.2.testBit (i - n) = true) := by
  unfold litW
  rw [Nat.testBit_or, ← Nat.shiftLeft_eq, Nat.testBit_shiftLeft, Bool.or_eq_true_iff, Bool.and_eq_true_iff, decide_eq_true_iff]
  constructor
  · rintro (h | h)
    · exact .inl ⟨bit_lt h1 h, h⟩
    · exact .inr h
  · rintro (h | h)
    · exact .inl h.2
    · exact .inr h
theorem litW_lt {n : Nat} {c : Cla} (h1 : c.1 < one n) (h2 : c.2 < one n) : litW n c < one (n + n) := by
  apply Nat.lt_pow_two_of_testBit
  intro i hi
  cases e : (litW n c).testBit i with
  | false => rfl
  | true =>
    rcases (litW_bit h1 i).1 e with h | h
    · omega
    · have := bit_lt h2 h.2; omega
theorem litW_mem {n : Nat} {c : Cla} (h1 : c.1 < one n) (h2 : c.2 < one n) (i : Nat) : i ∈ litsK n c n ↔ (litW n c).testBit i = true := by
  rw [mem_lits (Nat.le_refl n), litW_bit h1]
  constructor
  · rintro (h | ⟨a, b, d⟩)
    · exact .inl h
    · exact .inr ⟨a, d⟩
  · rintro (h | ⟨a, d⟩)
    · exact .inl h
    · have := bit_lt h2 d
      exact .inr ⟨a, by omega, d⟩
/-- The least bit. -/
def lowB (x : Nat) : Nat := Lib.ctz 32 x
/-- The greatest bit. -/
def topB (x : Nat) : Nat := Lib.bitLen x - 1
theorem low_spec {x : Nat} (h0 : x ≠ 0) (h : x < 4294967296) : x.testBit (lowB x) = true ∧ ∀ i, x.testBit i = true → lowB x ≤ i := by
  obtain ⟨m, hm, _⟩ := Lib.ctzFrom_spec 32 x (by omega) (by omega)
  have e : lowB x = Lib.ctzFrom 32 x := by unfold lowB Lib.ctz; rw [if_neg h0]
  rw [e]
  generalize Lib.ctzFrom 32 x = k at *
  subst hm
  refine ⟨?_, fun i hi => ?_⟩
  · rw [Nat.mul_comm, ← Nat.shiftLeft_eq, Nat.testBit_shiftLeft]
    simp [Nat.testBit_zero]
  · rw [Nat.mul_comm, ← Nat.shiftLeft_eq, Nat.testBit_shiftLeft] at hi
    simp at hi
    exact hi.1
theorem top_spec {x : Nat} (h0 : x ≠ 0) (h : x < 4294967296) : 1 ≤ Lib.bitLen x ∧ x.testBit (topB x) = true ∧ ∀ i, x.testBit i = true → i ≤ topB x := by
  obtain ⟨h1, h2, h3⟩ := Lib.bitLenAux_bounds 64 x (by omega) h0
  have e : Lib.bitLen x = Lib.bitLenAux 64 x := rfl
  unfold topB
  rw [e]
  generalize Lib.bitLenAux 64 x = k at *
  obtain ⟨k, rfl⟩ : ∃ k', k = k' + 1 := ⟨k - 1, by omega⟩
  simp only [Nat.add_sub_cancel] at *
  refine ⟨h1, ?_, fun i hi => ?_⟩
  · rw [Nat.testBit_eq_decide_div_mod_eq]
    have : x / 2 ^ k = 1 := by
      apply Nat.div_eq_of_lt_le
      · omega
      · rw [Nat.pow_succ] at h3; omega
    rw [this]
    rfl
  · have := bit_lt h3 hi
    omega
theorem lit_nz {n : Nat} {c : Cla} (hn : n ≤ 32) (h1 : c.1 < one n) (h2 : c.2 < one n) (h3 : 1 ≤ pop c.1 + pop c.2) : litW n c ≠ 0 := by
  intro e
  have hs := lits_size hn h1 h2
  cases hL : litsK n c n with
  | nil => rw [hL] at hs; simp at hs; omega
  | cons a r =>
    have := (litW_mem h1 h2 a).1 (by rw [hL]; simp)
    rw [e] at this
    simp at this
/-- What a clause leads from and to. -/
theorem said_ends {n : Nat} {c : Cla} (hn : n ≤ 16) (h1 : c.1 < one n) (h2 : c.2 < one n) (h3 : 1 ≤ pop c.1 + pop c.2 ∧ pop c.1 + pop c.2 ≤ 2) :
    lowB (litW n c) < n + n ∧ topB (litW n c) < n + n ∧
      ∀ i j, i < n + n → (saidB n c i j = true ↔ (i = neg n (lowB (litW n c)) ∧ j = topB (litW n c)) ∨ (i = neg n (topB (litW n c)) ∧ j = lowB (litW n c))) := by
  have hs := lits_size (by omega) h1 h2
  have h0 := lit_nz (by omega) h1 h2 h3.1
  have hlt := litW_lt h1 h2
  have h32 : litW n c < 4294967296 := Nat.lt_of_lt_of_le hlt (by unfold one; exact Nat.pow_le_pow_right (by omega) (show n + n ≤ 32 by omega))
  obtain ⟨l1, l2⟩ := low_spec h0 h32
  obtain ⟨_, t1, t2⟩ := top_spec h0 h32
  have la := bit_lt hlt l1
  have ta := bit_lt hlt t1
  refine ⟨la, ta, fun i j hi => ?_⟩
  have hmem := litW_mem h1 h2
  generalize lowB (litW n c) = a at *
  generalize topB (litW n c) = b at *
  have k1 := (hmem a).2 l1
  have k2 := (hmem b).2 t1
  have k3 : ∀ m ∈ litsK n c n, a ≤ m ∧ m ≤ b := fun m hm => ⟨l2 m ((hmem m).1 hm), t2 m ((hmem m).1 hm)⟩
  have key : saidB n c i j = true ↔ (a = neg n i ∧ b = j) ∨ (b = neg n i ∧ a = j) := by
    unfold saidB
    generalize litsK n c n = L at *
    match L, hs with
    | [], hs => simp at k1
    | [p], _ =>
      simp at k1 k2
      subst k1 k2
      simp [saidL]
    | [p, q], _ =>
      have g1 := k3 p (by simp)
      have g2 := k3 q (by simp)
      simp at k1 k2
      rcases k1 with rfl | rfl <;> rcases k2 with rfl | rfl
      · obtain rfl : q = b := by omega
        simp [saidL]
      · simp [saidL]
      · simp [saidL]
        constructor
        · rintro (h | h)
          · exact .inr h
          · exact .inl h
        · rintro (h | h)
          · exact .inr h
          · exact .inl h
      · obtain rfl : p = b := by omega
        simp [saidL]
    | x :: y :: d :: r, hs => simp at hs; omega
  rw [key]
  have e1 : ∀ z, z < n + n → (z = neg n i ↔ i = neg n z) := fun z hz => ⟨fun h => by rw [h, neg_neg hi], fun h => by rw [h, neg_neg hz]⟩
  rw [e1 a la, e1 b ta]
  constructor
  · rintro (⟨x, y⟩ | ⟨x, y⟩)
    · exact .inl ⟨x, y.symm⟩
    · exact .inr ⟨x, y.symm⟩
  · rintro (⟨x, y⟩ | ⟨x, y⟩)
    · exact .inl ⟨x, y.symm⟩
    · exact .inr ⟨x, y.symm⟩

/-- The two steps of a clause. -/
def impP (n : Nat) (c : Cla) : List (Int × Int) := [((neg n (lowB (litW n c)) : Int), (topB (litW n c) : Int)), ((neg n (topB (litW n c)) : Int), (lowB (litW n c) : Int))]
/-- The steps of all clauses. -/
def imps (n : Nat) (l : List Cla) : List (Int × Int) := l.flatMap (impP n)
theorem imps_len (n : Nat) : ∀ l : List Cla, (imps n l).length = 2 * l.length
  | [] => rfl
  | c :: l => by
    have := imps_len n l
    unfold imps at *
    rw [List.flatMap_cons, List.length_append, this]
    simp [impP]
    omega
theorem imps_at (n : Nat) : ∀ (l : List Cla) (k : Nat) (c : Cla), l[k]? = some c →
    (imps n l)[2 * k]? = some ((neg n (lowB (litW n c)) : Int), (topB (litW n c) : Int)) ∧ (imps n l)[2 * k + 1]? = some ((neg n (topB (litW n c)) : Int), (lowB (litW n c) : Int))
  | [], k, c, h => by simp at h
  | d :: l, 0, c, h => by
    simp at h
    subst h
    exact ⟨rfl, rfl⟩
  | d :: l, k + 1, c, h => by
    have := imps_at n l k c (by simpa using h)
    have e : imps n (d :: l) = impP n d ++ imps n l := rfl
    have e2 : (impP n d).length = 2 := rfl
    rw [e, List.getElem?_append_right (by omega), List.getElem?_append_right (by omega), e2, show 2 * (k + 1) - 2 = 2 * k by omega, show 2 * (k + 1) + 1 - 2 = 2 * k + 1 by omega]
    exact this
theorem mem_imps {n : Nat} {l : List Cla} {p : Int × Int} : p ∈ imps n l ↔ ∃ c ∈ l, p ∈ impP n c := by unfold imps; rw [List.mem_flatMap]
theorem TwoOk.ends {n : Nat} {l : List Cla} (h : TwoOk n l) (hn : n ≤ 16) {c : Cla} (hc : c ∈ l) : lowB (litW n c) < n + n ∧ topB (litW n c) < n + n ∧
      ∀ i j, i < n + n → (saidB n c i j = true ↔ (i = neg n (lowB (litW n c)) ∧ j = topB (litW n c)) ∨ (i = neg n (topB (litW n c)) ∧ j = lowB (litW n c))) :=
  said_ends hn (h.fit c hc).1 (h.fit c hc).2 (two_iff.1 h.two c hc)
theorem TwoOk.good {n : Nat} {l : List Cla} (h : TwoOk n l) (hn : n ≤ 16) : Good ((n + n : Nat) : Int) (imps n l) := by
  intro p hp
  obtain ⟨c, hc, hp⟩ := mem_imps.1 hp
  obtain ⟨a, b, _⟩ := h.ends hn hc
  have a' := neg_lt a
  have b' := neg_lt b
  unfold impP at hp
  simp only [List.mem_cons, List.not_mem_nil, or_false] at hp
  unfold okPair
  rcases hp with rfl | rfl <;> simp only <;> omega
theorem TwoOk.reach {n : Nat} {l : List Cla} (h : TwoOk n l) (hn : n ≤ 16) {i j : Nat} (hi : i < n + n) : Reach (imps n l) i j ↔ Rch n l i j := by
  constructor
  · intro hr
    obtain ⟨k, hk, _, hr⟩ := hr (fun z => ∃ k : Nat, z = k ∧ k < n + n ∧ Rch n l i k) ⟨i, rfl, hi, .here⟩ (by
      rintro ⟨p1, p2⟩ hp ⟨k, hk, hkn, hr⟩
      obtain ⟨c, hc, hp⟩ := mem_imps.1 hp
      obtain ⟨a, b, hs⟩ := h.ends hn hc
      unfold impP at hp
      simp only [List.mem_cons, List.not_mem_nil, or_false, Prod.mk.injEq] at hp
      simp only at hk ⊢
      rcases hp with ⟨q1, q2⟩ | ⟨q1, q2⟩
      · exact ⟨_, q2, b, hr.more (step_iff.2 ⟨c, hc, (hs k _ hkn).2 (.inl ⟨by omega, rfl⟩)⟩)⟩
      · exact ⟨_, q2, a, hr.more (step_iff.2 ⟨c, hc, (hs k _ hkn).2 (.inr ⟨by omega, rfl⟩)⟩)⟩)
    obtain rfl : j = k := by omega
    exact hr
  · intro hr
    induction hr with
    | here => exact Reach.refl _ _
    | @more j k h1 hs ih =>
      obtain ⟨c, hc, hs⟩ := step_iff.1 hs
      obtain ⟨a, b, hk⟩ := h.ends hn hc
      rcases (hk j k (h.rch_lt hi h1)).1 hs with ⟨q1, q2⟩ | ⟨q1, q2⟩
      · exact ih.step (p := ((j : Int), (k : Int))) (mem_imps.2 ⟨c, hc, by unfold impP; rw [q1, q2]; simp⟩)
      · exact ih.step (p := ((j : Int), (k : Int))) (mem_imps.2 ⟨c, hc, by unfold impP; rw [q1, q2]; simp⟩)
open Classical in
theorem TwoOk.table {n : Nat} {l : List Cla} (h : TwoOk n l) (hn : n ≤ 16) : tab (n + n) (upT (n + n) (imps n l)) = (List.range (n + n)).map (reachW n l) := by
  refine tab_congr fun i hi => wordOf_congr fun j _ => ?_
  rw [Bool.eq_iff_iff, under_iff, decide_eq_true_iff]
  exact h.reach hn hi
/-- One clause more. -/
theorem grow_clause {n : Nat} {l : List Cla} (h : TwoOk n l) (hn : n ≤ 16) {f : Nat → Nat} {k : Nat} {c : Cla} (hc : l[k]? = some c) (hg : Grows (n + n) (imps n l) f (2 * k)) :
    Grows (n + n) (imps n l) (upd (upd f (neg n (lowB (litW n c))) (f (neg n (lowB (litW n c))) ||| one (topB (litW n c)))) (neg n (topB (litW n c)))
      (upd f (neg n (lowB (litW n c))) (f (neg n (lowB (litW n c))) ||| one (topB (litW n c))) (neg n (topB (litW n c))) ||| one (lowB (litW n c)))) (2 * (k + 1)) := by
  obtain ⟨a, b, _⟩ := h.ends hn (List.mem_of_getElem? hc)
  obtain ⟨p1, p2⟩ := imps_at n l k c hc
  exact (hg.add p1 b (neg_lt a)).add p2 a (neg_lt b)

end Go.Proofs.YtekeeodnjlebcaaDoor
