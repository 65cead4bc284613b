/- Plain mathematics: the next concept in the lectic order (Ganter). -/
import Derived.Test.YtlokldjookngkaaGan
namespace Go.Proofs.Ytlokldjookngkaa
open Go.RowKit

theorem low_bit (m k i : Nat) : (m &&& full k).testBit i = (m.testBit i && decide (i < k)) := by rw [Nat.testBit_and, full_bit]
/-- What m has below k, and k. -/
def lowUp (m k : Nat) : Nat := (m &&& full k) ||| one k
theorem lowUp_lt {n m k : Nat} (hk : k < n) (hm : m < one n) : lowUp m k < one n :=
  or_lt_one (Nat.lt_of_le_of_lt Nat.and_le_left hm) (one_lt_one hk)
theorem lowUp_sub {m k c : Nat} (h1 : c.testBit k = true) (h2 : ∀ i, i < k → c.testBit i = m.testBit i) : sub (lowUp m k) c = true := by
  refine or_sub.2 ⟨sub_iff.2 fun i hi => ?_, sub_iff.2 fun i hi => ?_⟩
  · rw [low_bit, Bool.and_eq_true, decide_eq_true_iff] at hi
    rw [h2 i hi.2, hi.1]
  · rw [one_testBit, decide_eq_true_iff] at hi
    subst hi; exact h1
/-- No concept parts from m, upwards, at k or later. -/
def Gone (n : Nat) (rows : List Nat) (m k : Nat) : Prop :=
  ∀ c, c < one n → conB n rows c = true → ∀ j, k ≤ j → c.testBit j = true → m.testBit j = false → (∀ i, i < j → c.testBit i = m.testBit i) → False
theorem Gone.init (n : Nat) (rows : List Nat) (m : Nat) : Gone n rows m n := fun c hc _ j hj h1 _ _ => by have := bit_lt hc h1; omega
theorem Gone.has {n : Nat} {rows : List Nat} {m k : Nat} (h : Gone n rows m (k + 1)) (hb : m.testBit k = true) : Gone n rows m k := fun c hc hn j hj h1 h2 h3 => by
  rcases Nat.eq_or_lt_of_le hj with e | e
  · subst e; rw [hb] at h2; cases h2
  · exact h c hc hn j e h1 h2 h3
theorem Gone.no {n : Nat} {rows : List Nat} {m k : Nat} (h : Gone n rows m (k + 1)) (hk : k < n) (hm : m < one n)
    (e : clM n rows (lowUp m k) &&& full k ≠ m &&& full k) : Gone n rows m k := fun c hc hn j hj h1 h2 h3 => by
  rcases Nat.eq_or_lt_of_le hj with e2 | e2
  · subst e2
    have hs := clM_mono (n := n) (rows := rows) (lowUp_sub h1 h3)
    rw [con_iff.1 hn] at hs
    have hu := clM_sub (rows := rows) (lowUp_lt hk hm)
    apply e
    apply Nat.eq_of_testBit_eq
    intro i
    rw [low_bit, low_bit]
    by_cases hi : i < k
    · simp only [hi, decide_true, Bool.and_true]
      rw [Bool.eq_iff_iff]
      constructor
      · intro h4; rw [← h3 i hi]; exact sub_iff.1 hs i h4
      · intro h4
        refine sub_iff.1 hu i ?_
        unfold lowUp
        rw [Nat.testBit_or, low_bit, h4]
        simp [hi]
    · simp [hi]
  · exact h c hc hn j e2 h1 h2 h3
theorem Gone.next {n : Nat} {rows : List Nat} {m k : Nat} (h : Gone n rows m (k + 1)) (hn : n ≤ 32) (hk : k < n) (hm : m < one n) (hb : m.testBit k = false)
    (e : clM n rows (lowUp m k) &&& full k = m &&& full k) : IsNext n rows m (clM n rows (lowUp m k)) := by
  have hl := lowUp_lt hk hm
  have hu := clM_sub (rows := rows) hl
  have low : ∀ i, i < k → (clM n rows (lowUp m k)).testBit i = m.testBit i := fun i hi => by
    have h1 := congrArg (·.testBit i) e
    simp only [low_bit, hi, decide_true, Bool.and_true] at h1
    exact h1
  have hkk : (clM n rows (lowUp m k)).testBit k = true := sub_iff.1 hu k (by unfold lowUp; rw [Nat.testBit_or, one_testBit]; simp)
  refine ⟨clM_lt _ _ _, clM_con hl, behP_iff.2 ⟨k, by omega, hkk, hb, low⟩, fun c hc hcn hbc => ?_⟩
  obtain ⟨j, hj, h1, h2, h3⟩ := behP_iff.1 hbc
  rcases Nat.lt_trichotomy j k with hjk | hjk | hjk
  · right
    exact behP_iff.2 ⟨j, hj, h1, (low j hjk).trans h2, fun i hi => (h3 i hi).trans (low i (by omega)).symm⟩
  · subst hjk
    have hs := clM_mono (n := n) (rows := rows) (lowUp_sub h1 h3)
    rw [con_iff.1 hcn] at hs
    by_cases e2 : c = clM n rows (lowUp m j)
    · exact .inl e2
    · right
      rcases beh_total hn hc (clM_lt n rows (lowUp m j)) e2 with h4 | h4
      · exact h4
      · exfalso
        obtain ⟨i, _, k1, k2, _⟩ := behP_iff.1 h4
        rw [sub_iff.1 hs i k1] at k2
        cases k2
  · exact (h c hc hcn j hjk h1 h2 h3).elim
theorem Gone.none {n : Nat} {rows : List Nat} {m : Nat} (h : Gone n rows m 0) : NoNext n rows m := fun c hc hn => by
  cases hb : behB c m with
  | false => rfl
  | true =>
    obtain ⟨j, _, h1, h2, h3⟩ := behP_iff.1 hb
    exact (h c hc hn j (Nat.zero_le _) h1 h2 h3).elim

end Go.Proofs.Ytlokldjookngkaa
