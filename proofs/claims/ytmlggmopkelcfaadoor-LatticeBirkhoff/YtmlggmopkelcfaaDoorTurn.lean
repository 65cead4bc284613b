/- Plain mathematics: orders turned round. -/
import Derived.Test.YtmlggmopkelcfaaDoorW7
namespace Go.Proofs.YtmlggmopkelcfaaDoor
open Go.RowKit

/-! ## Turned round -/
def turned (ps : List (Int × Int)) : List (Int × Int) := ps.map fun p => (p.2, p.1)
theorem mem_turned {ps : List (Int × Int)} {a b : Int} : (a, b) ∈ turned ps ↔ (b, a) ∈ ps := by
  unfold turned
  rw [List.mem_map]
  constructor
  · rintro ⟨⟨x, y⟩, hp, he⟩
    simp only [Prod.mk.injEq] at he
    obtain ⟨rfl, rfl⟩ := he
    exact hp
  · intro h; exact ⟨(b, a), h, rfl⟩
theorem reach_turned {ps : List (Int × Int)} {a b : Int} (h : Reach ps b a) : Reach (turned ps) a b := by
  refine h (fun z => Reach (turned ps) z b) (Reach.refl _ _) ?_
  rintro ⟨x, y⟩ hp hx
  exact ((Reach.refl (turned ps) y).step (p := (y, x)) (mem_turned.2 hp)).trans hx
theorem turned_turned (ps : List (Int × Int)) : turned (turned ps) = ps := by
  unfold turned
  rw [List.map_map]
  exact List.map_id'' (fun _ => rfl) ps
theorem under_turned (ps : List (Int × Int)) (a b : Int) : under (turned ps) a b = under ps b a := by
  rw [Bool.eq_iff_iff, under_iff, under_iff]
  constructor
  · intro h
    have := reach_turned h
    rw [turned_turned] at this
    exact this
  · exact reach_turned
theorem turned_length (ps : List (Int × Int)) : (turned ps).length = ps.length := by simp [turned]
theorem turned_cyc {n : Int} {ps : List (Int × Int)} (h : ¬ Cyc n ps) : ¬ Cyc n (turned ps) := by
  rintro ⟨i, j, h1, h2, h3, h4, h5⟩
  have e4 := reach_turned h4
  have e5 := reach_turned h5
  rw [turned_turned] at e4 e5
  exact h ⟨i, j, h1, h2, h3, e5, e4⟩
theorem turned_code {n : Int} {ps : List (Int × Int)} (h : code n ps = 0) : code n (turned ps) = 0 := by
  obtain ⟨h2, h3, h4⟩ := code_zero h
  refine code_ok ?_ ?_ (turned_cyc h4)
  · unfold Large at *; rw [turned_length]; exact h2
  · rintro ⟨x, y⟩ hp
    obtain ⟨o1, o2, o3, o4⟩ := h3 _ (mem_turned.1 hp)
    exact ⟨o3, o4, o1, o2⟩

end Go.Proofs.YtmlggmopkelcfaaDoor
