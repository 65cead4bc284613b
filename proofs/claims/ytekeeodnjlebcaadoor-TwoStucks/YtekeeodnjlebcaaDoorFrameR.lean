/- Arguments opened: a slice of rules; a rule. -/
import Derived.Test.YtekeeodnjlebcaaDoorFrame
import Derived.Test.YtekeeodnjlebcaaDoorRl
import Derived.Lib.SmallJoins
namespace Go.Proofs.YtekeeodnjlebcaaDoor
open Go.ChangeShapes Go.WideShapes Go.ChangeAt Go.RowKit Go.Deep

/-- A slice of structs of two words that came in reads as a list of pairs of numbers. -/
theorem open_rules {H : Type} {enc : TypeId × Value → H} {P : Program} {w : World} {base : Nat} {held : Bool} {t e : TypeId} {f0 f1 : Field} {A : Option Addr} {len cap fuel : Nat} {x : DataW H × List MemPlace}
    (ht : P.underlying t = some (.slice e)) (he : P.underlying e = some (.struct #[f0, f1])) (hone : oneCellFields P #[f0, f1] = true) (hi0 : P.underlying f0.type = some (.int .u32)) (hi1 : P.underlying f1.type = some (.int .u32)) (hc : P.cellsOf e = 2)
    (h : DataW.trod enc P w base (fun _ => true) held fuel t (Value.slice A len cap).cells.toList = some x) :
    ∃ rs : List (Nat × Nat), rs.length = len ∧ len ≤ maxLen ∧ W32 rs ∧ Row w A (rulesC rs) := by
  rcases open_slice ht h with ⟨hcs, _⟩ | ⟨a, l, c, m, n, D, Pl, hcs, _, hl, hm, hmm, _, hel⟩
  · simp [Value.cells] at hcs
    obtain ⟨rfl, rfl, rfl⟩ := hcs
    exact ⟨[], rfl, by omega, fun r hr => by simp at hr, .inl rfl⟩
  · simp [Value.cells] at hcs
    obtain ⟨rfl, rfl, rfl⟩ := hcs
    simp at hmm
    subst hmm
    have key : ∀ k, k < len → ∃ p : Nat × Nat, (p.1 < 4294967296 ∧ p.2 < 4294967296) ∧ w.cell? (a.add (k * 2)) = some (.int .u32 (p.1 : Int)) ∧ w.cell? (a.add (k * 2 + 1)) = some (.int .u32 (p.2 : Int)) := by
      intro k hk
      obtain ⟨cs', hcc, htr⟩ := hel k (by omega)
      rw [hc] at hcc
      obtain ⟨y0, y1, n', hx, _, h0, h1⟩ := trod_struct2 he htr
      obtain ⟨o0, k0⟩ := hone_of hone 0 f0 rfl
      obtain ⟨o1, k1⟩ := hone_of hone 1 f1 rfl
      obtain ⟨_, hcl, hat⟩ := World.cells?_some hcc
      match cs', hcl with
      | [c0, c1], _ =>
        rw [o0, k0] at h0
        rw [o1, k1] at h1
        simp at h0 h1
        obtain ⟨z0, e0, _, w0⟩ := DataW.trod_int hi0 h0
        obtain ⟨z1, e1, _, w1⟩ := DataW.trod_int hi1 h1
        simp at e0 e1
        subst e0 e1
        obtain ⟨b0, b0'⟩ := bounds_u32 w0
        obtain ⟨b1, b1'⟩ := bounds_u32 w1
        obtain ⟨p0, rfl⟩ := Int.eq_ofNat_of_zero_le b0
        obtain ⟨p1, rfl⟩ := Int.eq_ofNat_of_zero_le b1
        have a0 := hat 0 (by omega)
        have a1 := hat 1 (by omega)
        simp only [add_add, Nat.add_zero, List.getElem?_cons_zero, List.getElem?_cons_succ] at a0 a1
        exact ⟨(p0, p1), ⟨by simp only; omega, by simp only; omega⟩, a0, a1⟩
    by_cases hz : len = 0
    · subst hz
      exact ⟨[], rfl, by omega, fun r hr => by simp at hr, .inl rfl⟩
    · obtain ⟨b, off, sp⟩ := a
      obtain ⟨p0, _, hp0, _⟩ := key 0 (by omega)
      obtain rfl : sp = none := spot_none (by rw [Nat.zero_mul] at hp0; exact hp0)
      have key2 : ∀ k, ∃ p : Nat × Nat, (p.1 < 4294967296 ∧ p.2 < 4294967296) ∧ (k < len → w.cell? ⟨b, off + k * 2, none⟩ = some (.int .u32 (p.1 : Int)) ∧ w.cell? ⟨b, off + (k * 2 + 1), none⟩ = some (.int .u32 (p.2 : Int))) := by
        intro k
        by_cases hk : k < len
        · obtain ⟨p, hp, h1, h2⟩ := key k hk
          refine ⟨p, hp, fun _ => ⟨?_, ?_⟩⟩
          · by_cases hk0 : k * 2 = 0
            · simpa [Addr.add, hk0] using h1
            · simpa [Addr.add, hk0] using h1
          · simpa [Addr.add] using h2
        · exact ⟨(0, 0), by simp, fun h => absurd h hk⟩
      obtain ⟨F, hF⟩ := Classical.axiomOfChoice key2
      refine ⟨(List.range len).map F, by simp, by omega, fun r hr => ?_, .inr ⟨b, off, rfl, fun j v hv => ?_⟩⟩
      · rw [List.mem_map] at hr
        obtain ⟨k, _, rfl⟩ := hr
        exact (hF k).1
      · have hj : j < (rulesC ((List.range len).map F)).length := (List.getElem?_eq_some_iff.1 hv).1
        rw [rulesC_length] at hj
        simp at hj
        have hk : j / 2 < len := by omega
        have hget : ((List.range len).map F)[j / 2]? = some (F (j / 2)) := by simp [hk]
        obtain ⟨h1, h2⟩ := (hF (j / 2)).2 hk
        rcases Nat.mod_two_eq_zero_or_one j with hj2 | hj2
        · have e : j = j / 2 * 2 := by omega
          have := rulesC_at0 hget
          rw [← e, hv] at this
          rw [← e] at h1
          rw [h1, ← this]
        · have e : j = j / 2 * 2 + 1 := by omega
          have := rulesC_at1 hget
          rw [← e, hv] at this
          rw [← e] at h2
          rw [h2, ← this]

end Go.Proofs.YtekeeodnjlebcaaDoor
