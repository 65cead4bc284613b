/- Rows of numbers. -/
import Derived.Test.YtlpjpnlfmjehnaaOwn
namespace Go.Proofs.Ytlpjpnlfmjehnaa
open Go.RowKit

/-- Numbers of the call's own. -/
def OwnI (w : World) (B : Nat) (v : Value) (xs : List Int) : Prop := w.ownsRow B 3 1 v xs.length (ints xs)
theorem ints_append (xs ys : List Int) : ints (xs ++ ys) = ints xs ++ ints ys := by simp [ints]
theorem OwnI.rowAt {w : World} {B g c : Nat} {xs : List Int} (h : OwnI w B (.slice (some ⟨g, 0, none⟩) xs.length c) xs) : Row w (some ⟨g, 0, none⟩) (ints xs) := Row.of_own h
theorem OwnI.below {w w' : World} {B : Nat} {v : Value} {cs : List Int} (h : OwnI w B v cs) (hb : Below w.heap.size w w') : OwnI w' B v cs :=
  World.ownsRow.kept h (row := none) ⟨hb.os, hb.tape, hb.output, hb.size, fun k hk _ => hb.block k hk⟩ (by cases hv : v.ownBlock <;> simp)
theorem OwnI.rebase {w : World} {B B' : Nat} {v : Value} {cs : List Int} (h : OwnI w B v cs) (hb : B' ≤ B) : OwnI w B' v cs := by
  obtain ⟨h1, h2⟩ := h
  refine ⟨h1, ?_⟩
  rcases h2 with h2 | ⟨g', cap', cur, hv, hg, r⟩
  · exact .inl h2
  · exact .inr ⟨g', cap', cur, hv, Nat.le_trans hb hg, r⟩
theorem OwnI.row {w : World} {B : Nat} {v : Value} {cs : List Int} (h : OwnI w B v cs) : ∃ A c, v = .slice A cs.length c ∧ Row w A (ints cs) ∧ cs.length ≤ maxLen := by
  rcases h.2 with ⟨hv, hn⟩ | ⟨g, cap, cur, hv, hg, hh, h1, h2, h3, h4⟩
  · have : cs = [] := List.eq_nil_of_length_eq_zero hn
    subst this
    exact ⟨none, 0, hv, .inl rfl, by simp [maxLen]⟩
  · subst hv
    exact ⟨some ⟨g, 0, none⟩, cap, rfl, Row.of_own h, by omega⟩

end Go.Proofs.Ytlpjpnlfmjehnaa
