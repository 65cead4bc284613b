/- Joins, looked for in a table of up-sets. -/
import Derived.Test.YtmlggmopkelcfaaDoorLatSpec
import Derived.Lib.TrailingZeros
namespace Go.Proofs.YtmlggmopkelcfaaDoor
open Go.RowKit

/-- c is the join of a and b just if its up-set is what the up-sets of a and b share. -/
theorem up_join {n : Nat} {ps : List (Int × Int)} {a b c : Nat} (hc : c < n) : (upT n ps c == upT n ps a &&& upT n ps b) = true ↔ IsJ n ps a b c := by
  rw [beq_iff_eq]
  constructor
  · intro h
    have key : ∀ d, d < n → under ps c d = (under ps a d && under ps b d) := by
      intro d hd
      have h1 : (upT n ps c).testBit d = (upT n ps a &&& upT n ps b).testBit d := by rw [h]
      rw [Nat.testBit_and, upT_testBit, upT_testBit, upT_testBit] at h1
      simpa [hd] using h1
    have h0 := key c hc
    rw [under_refl] at h0
    have h2 : under ps a c = true ∧ under ps b c = true := by simpa using h0.symm
    exact ⟨hc, h2.1, h2.2, fun d hd k1 k2 => by rw [key d hd, k1, k2]; rfl⟩
  · intro h
    refine word_ext (n := n) (upT_lt n ps c) (and_lt_one (upT_lt n ps a)) fun d hd => ?_
    rw [Nat.testBit_and, upT_testBit, upT_testBit, upT_testBit]
    simp only [hd, decide_true, Bool.true_and]
    rw [Bool.eq_iff_iff, Bool.and_eq_true]
    exact ⟨fun k => ⟨under_trans h.left k, under_trans h.right k⟩, fun k => h.least d hd k.1 k.2⟩
/-- What bound looks for. -/
noncomputable def foundW (n : Nat) (ps : List (Int × Int)) (a b : Nat) : Nat := wordOf n fun c => upT n ps c == upT n ps a &&& upT n ps b
theorem found_none {n : Nat} {ps : List (Int × Int)} {a b : Nat} (h : joined n ps a b < 0) : foundW n ps a b = 0 := by
  symm
  refine wordOf_of (one_pos n) fun c hc => ?_
  rw [Nat.zero_testBit]
  symm
  rcases joined_cases n ps a b with ⟨_, hno⟩ | ⟨d, hd, _⟩
  · rw [Bool.eq_false_iff]
    exact fun k => hno c ((up_join hc).1 k)
  · omega
theorem found_some {n : Nat} {ps : List (Int × Int)} {a b : Nat} (hcy : ¬ Cyc n ps) (h : ¬ joined n ps a b < 0) : ∃ c : Nat, c < n ∧ joined n ps a b = c ∧ foundW n ps a b = one c := by
  rcases joined_cases n ps a b with ⟨h1, _⟩ | ⟨c, h1, hj⟩
  · omega
  · refine ⟨c, hj.lt, h1, ?_⟩
    symm
    refine wordOf_of (one_lt_one hj.lt) fun d hd => ?_
    rw [one_testBit, Bool.eq_iff_iff, decide_eq_true_iff, up_join hd]
    exact ⟨fun e => e ▸ hj, fun k => hj.one hcy k⟩
theorem ctz_one {c : Nat} (h : c < 6) : Lib.ctz 32 (one c) = c := by
  have : ∀ c, c < 6 → Lib.ctz 32 (2 ^ c) = c := by decide
  exact this c h
/-- The table turned round is the table of the order turned round. -/
theorem rev_up (n : Nat) (ps : List (Int × Int)) : tab n (rev n (upT n ps)) = tab n (upT n (turned ps)) :=
  tab_congr fun a ha => wordOf_congr fun b hb => by rw [upT_testBit, under_turned]; simp [ha]
theorem bnd_met {n : Nat} {ps : List (Int × Int)} (h : code n ps = 0) (a b : Int) : bndC joined n (turned ps) a b = bndC met n ps a b ∧ bndV joined n (turned ps) a b = bndV met n ps a b := by
  have e : bndC joined n (turned ps) a b = bndC met n ps a b := by simp only [bndC, h, turned_code h]; rfl
  exact ⟨e, by unfold bndV; rw [e]; rfl⟩

end Go.Proofs.YtmlggmopkelcfaaDoor
