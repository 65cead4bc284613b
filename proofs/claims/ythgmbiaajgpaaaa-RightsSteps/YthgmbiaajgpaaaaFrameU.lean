/- Arguments opened: a slice of words; a slice of numbers. -/
import Derived.Test.YthgmbiaajgpaaaaFrame
namespace Go.Proofs.Ythgmbiaajgpaaaa
open Go.ChangeShapes Go.WideShapes Go.ChangeAt Go.RowKit Go.Deep

/-- A slice of words that came in reads as a list of numbers. -/
theorem open_words {H : Type} {enc : TypeId × Value → H} {P : Program} {w : World} {base : Nat} {held : Bool} {t e : TypeId} {A : Option Addr} {len cap fuel : Nat} {x : DataW H × List MemPlace}
    (ht : P.underlying t = some (.slice e)) (he : P.underlying e = some (.int .u32)) (hc : P.cellsOf e = 1)
    (h : DataW.trod enc P w base (fun _ => true) held fuel t (Value.slice A len cap).cells.toList = some x) :
    ∃ xs : List Nat, xs.length = len ∧ len ≤ maxLen ∧ (∀ r ∈ xs, r < 4294967296) ∧ Row w A (words xs) := by
  rcases open_slice ht h with ⟨hcs, _⟩ | ⟨a, l, c, m, n, D, Pl, hcs, _, hl, hm, hmm, _, hel⟩
  · simp [Value.cells] at hcs
    obtain ⟨rfl, rfl, rfl⟩ := hcs
    exact ⟨[], rfl, by omega, fun r hr => by simp at hr, .inl rfl⟩
  · simp [Value.cells] at hcs
    obtain ⟨rfl, rfl, rfl⟩ := hcs
    simp at hmm
    subst hmm
    have key : ∀ k, k < len → ∃ p : Nat, p < 4294967296 ∧ w.cell? (a.add k) = some (.int .u32 (p : Int)) := by
      intro k hk
      obtain ⟨cs', hcc, htr⟩ := hel k (by omega)
      rw [hc, Nat.mul_one] at hcc
      obtain ⟨_, hcl, hat⟩ := World.cells?_some hcc
      match cs', hcl with
      | [c0], _ =>
        obtain ⟨z0, e0, _, w0⟩ := DataW.trod_int he htr
        simp at e0
        subst e0
        obtain ⟨b0, b0'⟩ := bounds_u32 w0
        obtain ⟨p0, rfl⟩ := Int.eq_ofNat_of_zero_le b0
        have a0 := hat 0 (by omega)
        simp only [add_add, Nat.add_zero, List.getElem?_cons_zero] at a0
        exact ⟨p0, by omega, a0⟩
    by_cases hz : len = 0
    · subst hz
      exact ⟨[], rfl, by omega, fun r hr => by simp at hr, .inl rfl⟩
    · obtain ⟨b, off, sp⟩ := a
      obtain ⟨p0, _, hp0⟩ := key 0 (by omega)
      obtain rfl : sp = none := spot_none hp0
      have key2 : ∀ k, ∃ p : Nat, p < 4294967296 ∧ (k < len → w.cell? ⟨b, off + k, none⟩ = some (.int .u32 (p : Int))) := by
        intro k
        by_cases hk : k < len
        · obtain ⟨p, hp, h1⟩ := key k hk
          refine ⟨p, hp, fun _ => ?_⟩
          by_cases hk0 : k = 0
          · simpa [Addr.add, hk0] using h1
          · simpa [Addr.add, hk0] using h1
        · exact ⟨0, by omega, fun h => absurd h hk⟩
      obtain ⟨F, hF⟩ := Classical.axiomOfChoice key2
      refine ⟨(List.range len).map F, by simp, by omega, fun r hr => ?_, .inr ⟨b, off, rfl, fun j v hv => ?_⟩⟩
      · rw [List.mem_map] at hr
        obtain ⟨k, _, rfl⟩ := hr
        exact (hF k).1
      · have hj : j < (words ((List.range len).map F)).length := (List.getElem?_eq_some_iff.1 hv).1
        rw [words_length] at hj
        simp at hj
        have hget : ((List.range len).map F)[j]? = some (F j) := by simp [hj]
        have := words_at hget
        rw [hv] at this
        rw [(hF j).2 hj, ← this]

end Go.Proofs.Ythgmbiaajgpaaaa
