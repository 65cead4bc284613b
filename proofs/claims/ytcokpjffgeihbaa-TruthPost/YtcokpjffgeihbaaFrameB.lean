/- Arguments opened: a slice of slices of truth values. -/
import Derived.Test.YtcokpjffgeihbaaFrameBo
import Derived.Test.YtcokpjffgeihbaaTSpec
namespace Go.Proofs.Ytcokpjffgeihbaa
open Go.ChangeShapes Go.WideShapes Go.ChangeAt Go.RowKit Go.Deep

theorem open_tabs {H : Type} {enc : TypeId × Value → H} {P : Program} {w : World} {base : Nat} {held : Bool} {t e b : TypeId} {A : Option Addr} {len cap fuel : Nat} {x : DataW H × List MemPlace}
    (ht : P.underlying t = some (.slice e)) (he : P.underlying e = some (.slice b)) (hb : P.underlying b = some .bool) (hc : P.cellsOf e = 1) (hcb : P.cellsOf b = 1)
    (h : DataW.trod enc P w base (fun _ => true) held fuel t (Value.slice A len cap).cells.toList = some x) :
    ∃ fs : List (List Bool), fs.length = len ∧ len ≤ maxLen ∧ Tabs w A fs := by
  obtain ⟨ys, h1, h2, h3, h4⟩ := open_list (α := List Bool × Option Addr × Nat) 1 (by decide) (fun y => [Value.slice y.2.1 y.1.length y.2.2]) (fun _ => rfl) (fun y => y.1.length ≤ maxLen ∧ Row w y.2.1 (boolsC y.1)) ht hc (fun m cs D hd _ => by
    rcases open_slice he hd with ⟨hcs, _⟩ | ⟨a, l, c, m', n', D', Pl', hcs, _⟩
    · exact ⟨([], none, 0), ⟨by simp [maxLen], .inl rfl⟩, hcs⟩
    · obtain ⟨xs, k1, k2, k3⟩ := open_bools (A := some a) (len := l) (cap := c) he hb hcb (by rw [hcs] at hd; exact hd)
      exact ⟨(xs, some a, c), ⟨by rw [k1]; exact k2, k3⟩, by rw [hcs, ← k1]⟩) h
  refine ⟨ys.map (·.1), by simpa using h1, h2, ys.map (fun y => Value.slice y.2.1 y.1.length y.2.2), by simp, ?_, fun i f hf => ?_⟩
  · rw [← flat_one]; exact h4
  · rw [List.getElem?_map] at hf
    cases hy : ys[i]? with
    | none => rw [hy] at hf; simp at hf
    | some y =>
      rw [hy] at hf
      simp at hf
      subst hf
      have hq := h3 y (List.mem_of_getElem? hy)
      exact ⟨hq.1, y.2.1, y.2.2, by rw [List.getElem?_map, hy]; rfl, hq.2⟩

end Go.Proofs.Ytcokpjffgeihbaa
