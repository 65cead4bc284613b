/- Plain mathematics: a table is true just where one of its primes is (Quine). -/
import Derived.Test.YtcokpjffgeihbaaTr3
namespace Go.Proofs.Ytcokpjffgeihbaa
open Go.RowKit

/-- Is a product true for a set? -/
def covB (s : Nat) (r : Nat × Nat) : Bool := sub r.1 s && (r.2 &&& s == 0)
theorem prodB_iff {F : Nat → Bool} {y n m : Nat} : prodB F y n m = true ↔ ∀ s, s < m → covB s (y, n) = true → F s = true := by
  unfold prodB covB
  rw [List.all_eq_true]
  constructor
  · intro h s hs hc
    have := h s (List.mem_range.2 hs)
    rw [hc] at this
    simpa using this
  · intro h s hs
    cases hc : (sub y s && (n &&& s == 0)) with
    | false => rfl
    | true => rw [h s (List.mem_range.1 hs) hc]; rfl
theorem wo_sub {a b s : Nat} (h : sub a s = true) : sub (wo a b) s = true := by
  refine sub_iff.2 fun i hi => sub_iff.1 h i ?_
  unfold wo at hi
  rw [Nat.testBit_and, Bool.and_eq_true] at hi
  exact hi.1
theorem and_zero_iff {a b : Nat} : (a &&& b == 0) = true ↔ ∀ i, a.testBit i = true → b.testBit i = false := by
  rw [beq_iff_eq]
  constructor
  · intro h i hi
    have := congrArg (·.testBit i) h
    simp only [Nat.testBit_and, Nat.zero_testBit, hi, Bool.true_and] at this
    exact this
  · intro h
    apply Nat.eq_of_testBit_eq
    intro i
    rw [Nat.testBit_and, Nat.zero_testBit]
    cases hi : a.testBit i with
    | false => rfl
    | true => rw [h i hi]; rfl
theorem wo_zero2 {a b s : Nat} (h : (a &&& s == 0) = true) : (wo a b &&& s == 0) = true := by
  rw [and_zero_iff] at h ⊢
  intro i hi
  refine h i ?_
  unfold wo at hi
  rw [Nat.testBit_and, Bool.and_eq_true] at hi
  exact hi.1
theorem wo_lt {a v : Nat} (ha : a < 4294967296) (hv : v < 32) (h : a.testBit v = true) : wo a (one v) < a := by
  rcases Nat.lt_or_ge (wo a (one v)) a with h1 | h1
  · exact h1
  · have e : wo a (one v) = a := Nat.le_antisymm (wo_le _ _) h1
    have := and_not_bit (i := v) (one_lt hv) ha
    unfold wo at e
    rw [e, one_testBit, h] at this
    simp at this
theorem prime_below {k : Nat} {F : Nat → Bool} (hk : k ≤ 4) (s : Nat) : ∀ (m y no : Nat), y + no ≤ m → y < one k → no < one k → (y &&& no == 0) = true → prodB F y no (one k) = true → covB s (y, no) = true →
    ∃ r ∈ primL k F (one k), covB s r = true
  | m, y, no, hm, hy, hno, hd, hp, hc => by
    have h16 := one_le_16 hk
    cases hv : primV k F y no k with
    | true => exact ⟨(y, no), mem_primL.2 ⟨hy, hno, by unfold primeB; rw [hd, hp, hv]; rfl⟩, hc⟩
    | false =>
      obtain ⟨v, hvk, hvb, hvp⟩ : ∃ v, v < k ∧ (y ||| no).testBit v = true ∧ prodB F (wo y (one v)) (wo no (one v)) (one k) = true := by
        unfold primV at hv
        rw [List.all_eq_false] at hv
        obtain ⟨v, h1, h2⟩ := hv
        refine ⟨v, List.mem_range.1 h1, ?_⟩
        have h3 : ((y ||| no).testBit v && prodB F (wo y (one v)) (wo no (one v)) (one k)) = true := by
          cases e : ((y ||| no).testBit v && prodB F (wo y (one v)) (wo no (one v)) (one k)) with
          | true => rfl
          | false => exact absurd (by rw [e]; rfl) h2
        rwa [Bool.and_eq_true] at h3
      have hlt : wo y (one v) + wo no (one v) < y + no := by
        rw [Nat.testBit_or, Bool.or_eq_true] at hvb
        have l1 := wo_le y (one v)
        have l2 := wo_le no (one v)
        rcases hvb with h | h
        · have := wo_lt (show y < 4294967296 by omega) (show v < 32 by omega) h; omega
        · have := wo_lt (show no < 4294967296 by omega) (show v < 32 by omega) h; omega
      cases m with
      | zero => omega
      | succ m =>
        unfold covB at hc
        rw [Bool.and_eq_true] at hc
        refine prime_below hk s m (wo y (one v)) (wo no (one v)) (by omega) (Nat.lt_of_le_of_lt (wo_le _ _) hy) (Nat.lt_of_le_of_lt (wo_le _ _) hno) ?_ hvp ?_
        · refine wo_zero2 ?_
          rw [and_zero_iff] at hd ⊢
          intro i hi
          cases e : (wo no (one v)).testBit i with
          | false => rfl
          | true =>
            unfold wo at e
            rw [Nat.testBit_and, Bool.and_eq_true] at e
            rw [hd i hi] at e
            cases e.1
        · unfold covB
          rw [wo_sub hc.1, wo_zero2 hc.2]; rfl
theorem comp_bit {k s i : Nat} (hs : s < one k) (hi : i < k) : (full k - s).testBit i = !s.testBit i := by
  have h := Nat.testBit_two_pow_sub_succ (x := s) (n := k) hs i
  unfold full one
  rw [show 2 ^ k - 1 - s = 2 ^ k - (s + 1) by omega, h]
  simp [hi]
theorem comp_lt {k s : Nat} : full k - s < one k := by have := full_lt k; omega
/-- Quine. -/
theorem quine {k : Nat} {F : Nat → Bool} (hk : k ≤ 4) {s : Nat} (hs : s < one k) : (primL k F (one k)).any (covB s) = F s := by
  rw [Bool.eq_iff_iff, List.any_eq_true]
  constructor
  · rintro ⟨r, hr, hc⟩
    obtain ⟨_, _, hp⟩ := mem_primL.1 hr
    unfold primeB at hp
    rw [Bool.and_eq_true, Bool.and_eq_true] at hp
    exact prodB_iff.1 hp.1.2 s hs hc
  · intro hF
    have hcz : ((full k - s) &&& s == 0) = true := by
      rw [and_zero_iff]
      intro i hi
      have hik := bit_lt (comp_lt (k := k) (s := s)) hi
      rw [comp_bit hs hik] at hi
      simpa using hi
    have hcz' : (s &&& (full k - s) == 0) = true := by rw [Nat.and_comm]; exact hcz
    refine prime_below hk s _ s (full k - s) (Nat.le_refl _) hs comp_lt hcz' ?_ (by unfold covB; rw [sub_refl, hcz]; rfl)
    refine prodB_iff.2 fun t ht hc => ?_
    unfold covB at hc
    rw [Bool.and_eq_true] at hc
    have : t = s := by
      refine word_ext ht hs fun i hi => ?_
      cases e : s.testBit i with
      | true => exact sub_iff.1 hc.1 i e
      | false =>
        have h1 := and_zero_iff.1 hc.2 i (by rw [comp_bit hs hi, e]; rfl)
        exact h1
    rw [this]; exact hF

end Go.Proofs.Ytcokpjffgeihbaa
