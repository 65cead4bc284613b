/- Arguments opened: a slice of whatever elements. -/
import Derived.Test.YthgmbiaajgpaaaaFrame
import Derived.Test.YthgmbiaajgpaaaaFlat
namespace Go.Proofs.Ythgmbiaajgpaaaa
open Go.ChangeShapes Go.WideShapes Go.ChangeAt Go.RowKit Go.Deep

/-- A slice that came in is no longer than its capacity. -/
theorem open_cap {H : Type} {enc : TypeId × Value → H} {P : Program} {w : World} {held : Bool} {base : Nat} {t e : TypeId} {A : Option Addr} {len cap fuel : Nat} {x : DataW H × List MemPlace} (ht : P.underlying t = some (.slice e))
    (h : DataW.trod enc P w base (fun _ => true) held fuel t (Value.slice A len cap).cells.toList = some x) : len ≤ cap := by
  rcases open_slice ht h with ⟨hcs, _⟩ | ⟨a, l, c, m, n, D, Pl, hcs, _, hl, hm, hmm, _, hx⟩
  · simp [Value.cells] at hcs
    obtain ⟨rfl, rfl, rfl⟩ := hcs
    exact Nat.le_refl _
  · simp [Value.cells] at hcs
    obtain ⟨rfl, rfl, rfl⟩ := hcs
    exact hl
/-- A slice that came in reads as a list, where each element does. -/
theorem open_list {H : Type} {enc : TypeId × Value → H} {P : Program} {w : World} {held : Bool} {base : Nat} {t e : TypeId} {A : Option Addr} {len cap fuel : Nat} {x : DataW H × List MemPlace} {α : Type} [Inhabited α]
    (k : Nat) (hk0 : 0 < k) (E : α → List Value) (hE : ∀ y, (E y).length = k) (Q : α → Prop) (ht : P.underlying t = some (.slice e)) (hc : P.cellsOf e = k)
    (hel : ∀ (m : Nat) (cs : List Value) (D : DataW H × List MemPlace), DataW.trod enc P w base (fun _ => true) held m e cs = some D → cs.length = k → ∃ y : α, Q y ∧ cs = E y)
    (h : DataW.trod enc P w base (fun _ => true) held fuel t (Value.slice A len cap).cells.toList = some x) :
    ∃ ys : List α, ys.length = len ∧ len ≤ maxLen ∧ (∀ y ∈ ys, Q y) ∧ Row w A (ys.flatMap E) := by
  rcases open_slice ht h with ⟨hcs, _⟩ | ⟨a, l, c, m, n, D, Pl, hcs, _, hl, hm, hmm, _, hx⟩
  · simp [Value.cells] at hcs
    obtain ⟨rfl, rfl, rfl⟩ := hcs
    exact ⟨[], rfl, by omega, fun r hr => by simp at hr, .inl rfl⟩
  · simp [Value.cells] at hcs
    obtain ⟨rfl, rfl, rfl⟩ := hcs
    simp at hmm
    subst hmm
    have key : ∀ i, i < len → ∃ y : α, Q y ∧ ∀ j, j < k → w.cell? (a.add (i * k + j)) = (E y)[j]? := by
      intro i hi
      obtain ⟨cs', hcc, htr⟩ := hx i (by omega)
      rw [hc] at hcc
      obtain ⟨_, hcl, hat⟩ := World.cells?_some hcc
      obtain ⟨y, hy, rfl⟩ := hel _ _ _ htr hcl
      refine ⟨y, hy, fun j hj => ?_⟩
      have := hat j (by omega)
      rw [add_add] at this
      exact this
    by_cases hz : len = 0
    · subst hz
      exact ⟨[], rfl, by omega, fun r hr => by simp at hr, .inl rfl⟩
    · obtain ⟨b, off, sp⟩ := a
      obtain ⟨y0, _, hp0⟩ := key 0 (by omega)
      have h00 := hp0 0 hk0
      rw [Nat.zero_mul, Nat.zero_add, List.getElem?_eq_getElem (by rw [hE]; exact hk0)] at h00
      obtain rfl : sp = none := spot_none h00
      have key2 : ∀ i, ∃ y : α, i < len → Q y ∧ ∀ j, j < k → w.cell? ⟨b, off + (i * k + j), none⟩ = (E y)[j]? := by
        intro i
        by_cases hi : i < len
        · obtain ⟨y, hy, h1⟩ := key i hi
          refine ⟨y, fun _ => ⟨hy, fun j hj => ?_⟩⟩
          have h2 := h1 j hj
          generalize i * k + j = q at h2 ⊢
          by_cases hq0 : q = 0
          · simpa [Addr.add, hq0] using h2
          · simpa [Addr.add, hq0] using h2
        · exact ⟨default, fun h => absurd h hi⟩
      obtain ⟨F, hF⟩ : ∃ F : Nat → α, ∀ i, i < len → Q (F i) ∧ ∀ j, j < k → w.cell? ⟨b, off + (i * k + j), none⟩ = (E (F i))[j]? := ⟨fun i => Classical.choose (key2 i), fun i => Classical.choose_spec (key2 i)⟩
      refine ⟨(List.range len).map F, by simp, by omega, fun r hr => ?_, .inr ⟨b, off, rfl, fun j v hv => ?_⟩⟩
      · rw [List.mem_map] at hr
        obtain ⟨i, hi, rfl⟩ := hr
        exact (hF i (List.mem_range.1 hi)).1
      · rw [flat_get E k hE hk0] at hv
        by_cases hj : j / k < len
        · have hget : ((List.range len).map F)[j / k]? = some (F (j / k)) := by simp [hj]
          rw [hget, Option.bind_some] at hv
          have h1 := (hF (j / k) hj).2 (j % k) (Nat.mod_lt _ hk0)
          rw [Nat.div_add_mod' j k] at h1
          rw [h1, hv]
        · have hget : ((List.range len).map F)[j / k]? = none := by simp; omega
          rw [hget] at hv
          simp at hv

end Go.Proofs.Ythgmbiaajgpaaaa
