/- Rows of pairs. -/
import Derived.Test.YtmlggmopkelcfaaDoorW7
namespace Go.Proofs.YtmlggmopkelcfaaDoor
open Go.RowKit

theorem info35 : (Tryd.prog.info? 26).map (fun i => (i.zero, i.size, i.bytes)) = some (some (.agg #[.int .i64 0, .int .i64 0]), 2, 16) := by kernel_rfl

/-- Pairs of the call's own. -/
def OwnP (w : World) (B : Nat) (v : Value) (cs : List (Int × Int)) : Prop := w.ownsRow B 26 2 v cs.length (pairsC cs)
theorem OwnP.nil (w : World) (B : Nat) : OwnP w B (.slice none 0 0) [] := World.ownsRow_nil w B _ _
theorem pairsC_append (xs ys : List (Int × Int)) : pairsC (xs ++ ys) = pairsC xs ++ pairsC ys := by simp [pairsC]
theorem OwnP.row {w : World} {B : Nat} {v : Value} {cs : List (Int × Int)} (h : OwnP w B v cs) : ∃ A c, v = .slice A cs.length c ∧ Row w A (pairsC cs) ∧ cs.length ≤ maxLen := by
  rcases h.2 with ⟨hv, hn⟩ | ⟨g, cap, cur, hv, hg, hh, h1, h2, h3, h4⟩
  · have : cs = [] := List.eq_nil_of_length_eq_zero hn
    subst this
    exact ⟨none, 0, hv, .inl rfl, by simp [maxLen]⟩
  · subst hv
    refine ⟨some ⟨g, 0, none⟩, cap, rfl, .inr ⟨g, 0, rfl, fun j u hu => ?_⟩, by omega⟩
    have hj : j < (pairsC cs).length := (List.getElem?_eq_some_iff.1 hu).1
    rw [pairsC_length] at hj
    rw [Nat.zero_add, World.ownsRow.cellAt h j (by omega)]
    exact hu
theorem OwnP.below {w w' : World} {B : Nat} {v : Value} {cs : List (Int × Int)} (h : OwnP w B v cs) (hb : Below w.heap.size w w') : OwnP w' B v cs :=
  World.ownsRow.kept h (row := none) ⟨hb.os, hb.tape, hb.output, hb.size, fun k hk _ => hb.block k hk⟩ (by cases hv : v.ownBlock <;> simp)
theorem OwnP.rebase {w : World} {B B' : Nat} {v : Value} {cs : List (Int × Int)} (h : OwnP w B v cs) (hb : B' ≤ B) : OwnP w B' v cs := by
  obtain ⟨h1, h2⟩ := h
  refine ⟨h1, ?_⟩
  rcases h2 with h2 | ⟨g', cap', cur, hv, hg, r⟩
  · exact .inl h2
  · exact .inr ⟨g', cap', cur, hv, Nat.le_trans hb hg, r⟩

theorem cell_two (w : World) (x y : Value) (t : TypeId) : ∀ j u, [x, y][j]? = some u → (w.alloc (.cells #[x, y] t)).cell? ((⟨w.heap.size, 0, none⟩ : Addr).add j) = some u := by
  intro j u hu
  match j, hu with
  | 0, hu => simp at hu; subst hu; simp [Addr.add]
  | 1, hu => simp at hu; subst hu; simp [Addr.add]

end Go.Proofs.YtmlggmopkelcfaaDoor
