/- The mathematics of shorten; follow.Keys. -/
import Derived.Test.YtdiofkkdhdhkaaaWFo4
import Derived.Test.YtdiofkkdhdhkaaaSper
namespace Go.Proofs.Ytdiofkkdhdhkaaa
open Go.RowKit

theorem wo_bit {a b : Nat} (ha : a < 4294967296) (hb : b < 4294967296) (i : Nat) : (wo a b).testBit i = (a.testBit i && !b.testBit i) := and_not_bit hb ha
theorem wo_one_bit {a k : Nat} (ha : a < 4294967296) (hk : k < 32) (i : Nat) : (wo a (one k)).testBit i = (a.testBit i && !decide (k = i)) := by
  rw [wo_bit ha (one_lt hk), one_testBit]
theorem wo_minus {a k : Nat} (ha : a < 4294967296) (hk : k < 32) (h : a.testBit k = true) : wo a (one k) = a - one k :=
  Nat.eq_of_testBit_eq fun i => by rw [wo_one_bit ha hk, bit_minus h]
theorem wo_same {a k : Nat} (ha : a < 4294967296) (hk : k < 32) (h : a.testBit k = false) : wo a (one k) = a :=
  Nat.eq_of_testBit_eq fun i => by
    rw [wo_one_bit ha hk]
    by_cases e : k = i
    · subst e; rw [h]; rfl
    · simp [e]
theorem wo_sub {a k : Nat} (ha : a < 4294967296) (hk : k < 32) : sub (wo a (one k)) a = true := sub_iff.2 fun i hi => by
  rw [wo_one_bit ha hk, Bool.and_eq_true] at hi
  exact hi.1
theorem wo_mono {x y k : Nat} (hx : x < 4294967296) (hy : y < 4294967296) (hk : k < 32) (h : sub x y = true) : sub (wo x (one k)) (wo y (one k)) = true := sub_iff.2 fun i hi => by
  rw [wo_one_bit hx hk, Bool.and_eq_true] at hi
  rw [wo_one_bit hy hk, sub_iff.1 h i hi.1, hi.2]; rfl
/-- Does b follow from a? -/
def fol (n : Nat) (rs : List (Nat × Nat)) (b a : Nat) : Bool := sub b (closeW n rs a)
theorem fol_mono {n : Nat} {rs : List (Nat × Nat)} {b x y : Nat} (hf : FitR n rs) (hy : y < one n) (h : sub x y = true) (h2 : fol n rs b x = true) : fol n rs b y = true := sub_trans h2 (close_mono hf hy h)
theorem shortP_sub {n : Nat} {rs : List (Nat × Nat)} {b a : Nat} (ha : a < 4294967296) : ∀ k, k ≤ 6 → sub (shortP n rs b a k) a = true
  | 0, _ => sub_refl a
  | k + 1, hk => by
    have ih := shortP_sub (n := n) (rs := rs) (b := b) ha k (by omega)
    have hl := shortP_le n rs b a k
    unfold shortP
    split
    · exact sub_trans (wo_sub (by omega) (by omega)) ih
    · exact ih
theorem shortP_fol {n : Nat} {rs : List (Nat × Nat)} {b a : Nat} (h : fol n rs b a = true) : ∀ k, fol n rs b (shortP n rs b a k) = true
  | 0 => h
  | k + 1 => by
    have ih := shortP_fol h k
    unfold shortP
    split
    · assumption
    · exact ih
theorem shortP_tight {n : Nat} {rs : List (Nat × Nat)} {b a : Nat} (hn : n ≤ 6) (hf : FitR n rs) (ha : a < one n) : ∀ k, k ≤ 6 → ∀ i, i < k → (shortP n rs b a k).testBit i = true → fol n rs b (wo (shortP n rs b a k) (one i)) = false
  | 0, _, i, hi, _ => by omega
  | k + 1, hk, i, hi, hb => by
    have h64 := one_le_64 hn
    have ih := shortP_tight (b := b) hn hf ha k (by omega)
    have hl := shortP_le n rs b a k
    rw [shortP] at hb ⊢
    by_cases h : sub b (closeW n rs (wo (shortP n rs b a k) (one k))) = true
    · rw [if_pos h] at hb ⊢
      have hw := wo_le (shortP n rs b a k) (one k)
      rw [wo_one_bit (by omega) (by omega), Bool.and_eq_true] at hb
      have hik : i < k := by
        have : ¬ k = i := by simpa using hb.2
        omega
      cases e : fol n rs b (wo (wo (shortP n rs b a k) (one k)) (one i)) with
      | false => rfl
      | true =>
        have hw2 := wo_le (shortP n rs b a k) (one i)
        have := fol_mono hf (y := wo (shortP n rs b a k) (one i)) (by omega) (wo_mono (by omega) (by omega) (by omega) (wo_sub (by omega) (by omega))) e
        rw [ih i hik hb.1] at this
        cases this
    · rw [if_neg h] at hb ⊢
      by_cases e : i = k
      · subst e
        simpa [fol] using h
      · exact ih i (by omega) hb
theorem shortP_same {n : Nat} {rs : List (Nat × Nat)} {b a : Nat} (hn : n ≤ 6) (ha : a < one n) (h : ∀ i, i < 6 → a.testBit i = true → fol n rs b (wo a (one i)) = false) : ∀ k, k ≤ 6 → shortP n rs b a k = a
  | 0, _ => rfl
  | k + 1, hk => by
    have h64 := one_le_64 hn
    rw [shortP, shortP_same hn ha h k (by omega)]
    cases e : a.testBit k with
    | true =>
      have := h k (by omega) e
      unfold fol at this
      rw [if_neg (by rw [this]; decide)]
    | false => rw [wo_same (by omega) (by omega) e, ite_self]
theorem full_sub {n x : Nat} (hx : x < one n) : sub (full n) x = true ↔ x = full n :=
  ⟨fun h => sub_anti (sub_full hx) h, fun h => by rw [h]; exact sub_refl _⟩
/-- A key is what shorten leaves as it is. -/
theorem key_short {n : Nat} {rs : List (Nat × Nat)} {s : Nat} (hn : n ≤ 6) (hf : FitR n rs) (hs : s < one n) :
    keyB n rs s = (fol n rs (full n) s && shortW n rs (full n) s == s) := by
  have h64 := one_le_64 hn
  have hfol : ∀ x, fol n rs (full n) x = true ↔ closeW n rs x = full n := fun x => full_sub (closeW_lt n rs x)
  rw [Bool.eq_iff_iff]
  unfold keyB
  rw [Bool.and_eq_true, Bool.and_eq_true, beq_iff_eq, beq_iff_eq, List.all_eq_true, hfol]
  constructor
  · rintro ⟨h1, h2⟩
    refine ⟨h1, shortP_same hn hs (fun i hi hb => ?_) 6 (Nat.le_refl _)⟩
    have hin := bit_lt hs hb
    have := h2 i (List.mem_range.2 hin)
    rw [wo_minus (by omega) (by omega) hb]
    cases e : fol n rs (full n) (s - one i) with
    | false => rfl
    | true =>
      rw [hfol] at e
      rw [hb, e] at this
      simp at this
  · rintro ⟨h1, h2⟩
    refine ⟨h1, fun i hi => ?_⟩
    have hin := List.mem_range.1 hi
    cases hb : s.testBit i with
    | false => rfl
    | true =>
      have := shortP_tight (b := full n) hn hf hs 6 (Nat.le_refl _) i (by omega)
      rw [show shortP n rs (full n) s 6 = s from h2, wo_minus (by omega) (by omega) hb] at this
      have := this hb
      cases e : (closeW n rs (s - one i) == full n) with
      | false => rfl
      | true =>
        rw [beq_iff_eq, ← hfol] at e
        rw [e] at this
        cases this

end Go.Proofs.Ytdiofkkdhdhkaaa
