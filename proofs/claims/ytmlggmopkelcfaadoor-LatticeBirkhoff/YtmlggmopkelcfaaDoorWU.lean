/- Words of a call's own, and the list of the down-sets. -/
import Derived.Test.YtmlggmopkelcfaaDoorDownSpec
import Derived.Test.YtmlggmopkelcfaaDoorW5
namespace Go.Proofs.YtmlggmopkelcfaaDoor
open Go.RowKit

/-- Words of the call's own. -/
def OwnU (w : World) (B : Nat) (v : Value) (xs : List Nat) : Prop := w.ownsRow B 27 1 v xs.length (words xs)
theorem words_append (xs ys : List Nat) : words (xs ++ ys) = words xs ++ words ys := by simp [words]
theorem ownU_below {w w' : World} {B : Nat} {v : Value} {xs : List Nat} (h : OwnU w B v xs) (hb : Below w.heap.size w w') : OwnU w' B v xs :=
  World.ownsRow.kept h (row := none) ⟨hb.os, hb.tape, hb.output, hb.size, fun k hk _ => hb.block k hk⟩ (by cases hv : v.ownBlock <;> simp)
theorem OwnU.row {w : World} {B : Nat} {v : Value} {xs : List Nat} (h : OwnU w B v xs) : ∃ A c, v = .slice A xs.length c ∧ Row w A (words xs) ∧ xs.length ≤ maxLen := by
  rcases h.2 with ⟨hv, hn⟩ | ⟨g, cap, cur, hv, hg, hh, h1, h2, h3, h4⟩
  · have : xs = [] := List.eq_nil_of_length_eq_zero hn
    subst this
    exact ⟨none, 0, hv, .inl rfl, by simp [maxLen]⟩
  · subst hv
    exact ⟨some ⟨g, 0, none⟩, cap, rfl, Row.of_own h, by omega⟩
theorem downL_yes {n : Nat} {ps : List (Int × Int)} {k : Nat} (h : downB n ps k = true) : downL n ps (k + 1) = downL n ps k ++ [k] := by
  unfold downL; rw [List.range_succ, List.filter_append]; simp [h]
theorem downL_no {n : Nat} {ps : List (Int × Int)} {k : Nat} (h : downB n ps k = false) : downL n ps (k + 1) = downL n ps k := by
  unfold downL; rw [List.range_succ, List.filter_append]; simp [h]
theorem downL_len (n : Nat) (ps : List (Int × Int)) (k : Nat) : (downL n ps k).length ≤ k := by
  unfold downL; exact Nat.le_trans (List.length_filter_le _ _) (by simp)

end Go.Proofs.YtmlggmopkelcfaaDoor
