/- Words of a call's own, in a list that grows. -/
import Derived.Test.YtlpjpnlfmjehnaaOwn
namespace Go.Proofs.Ytlpjpnlfmjehnaa
open Go.RowKit

/-- Words of the call's own. -/
def OwnU (w : World) (B : Nat) (v : Value) (xs : List Nat) : Prop := w.ownsRow B 35 1 v xs.length (words xs)
theorem words_append (xs ys : List Nat) : words (xs ++ ys) = words xs ++ words ys := by simp [words]
theorem ownU_below {w w' : World} {B : Nat} {v : Value} {xs : List Nat} (h : OwnU w B v xs) (hb : Below w.heap.size w w') : OwnU w' B v xs :=
  World.ownsRow.kept h (row := none) ⟨hb.os, hb.tape, hb.output, hb.size, fun k hk _ => hb.block k hk⟩ (by cases hv : v.ownBlock <;> simp)
theorem OwnU.row {w : World} {B : Nat} {v : Value} {xs : List Nat} (h : OwnU w B v xs) : ∃ A c, v = .slice A xs.length c ∧ Row w A (words xs) ∧ xs.length ≤ maxLen := by
  rcases h.2 with ⟨hv, hn⟩ | ⟨g, cap, cur, hv, hg, hh, h1, h2, h3, h4⟩
  · have : xs = [] := List.eq_nil_of_length_eq_zero hn
    subst this
    exact ⟨none, 0, hv, .inl rfl, by simp [maxLen]⟩
  · subst hv
    exact ⟨some ⟨g, 0, none⟩, cap, rfl, Row.of_own h, by omega⟩
end Go.Proofs.Ytlpjpnlfmjehnaa
