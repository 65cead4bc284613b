/- Arguments opened: a slice of pairs of ints. -/
import Derived.Test.YthgmbiaajgpaaaaBase
import Derived.ProofKit
import Derived.OpenShut
import Derived.ShutString
import Derived.ChangeOld
import Derived.Deep.Slices
namespace Go.Proofs.Ythgmbiaajgpaaaa
open Go.ChangeShapes Go.WideShapes Go.ChangeAt Go.RowKit Go.Deep

theorem spot_none {w : World} {a : Addr} {v : Value} (h : w.cell? (a.add 0) = some v) : a.spot = none := by
  have h1 := World.cell?_spot h
  simpa [Addr.add] using h1

/-- A slice of pairs that came in reads as a list of pairs. -/
theorem open_pairs {H : Type} {enc : TypeId × Value → H} {P : Program} {w : World} {base : Nat} {held : Bool} {t e i : TypeId} {A : Option Addr} {len cap fuel : Nat} {x : DataW H × List MemPlace}
    (ht : P.underlying t = some (.slice e)) (he : P.underlying e = some (.array 2 i)) (hi : P.underlying i = some (.int .i64)) (hc : P.cellsOf e = 2) (hc1 : P.cellsOf i = 1)
    (h : DataW.trod enc P w base (fun _ => true) held fuel t (Value.slice A len cap).cells.toList = some x) :
    ∃ ps : List (Int × Int), ps.length = len ∧ len ≤ maxLen ∧ Row w A (pairsC ps) := by
  rcases open_slice ht h with ⟨hcs, _⟩ | ⟨a, l, c, m, n, D, Pl, hcs, _, hl, hm, hmm, _, hel⟩
  · simp [Value.cells] at hcs
    obtain ⟨rfl, rfl, rfl⟩ := hcs
    exact ⟨[], rfl, by omega, .inl rfl⟩
  · simp [Value.cells] at hcs
    obtain ⟨rfl, rfl, rfl⟩ := hcs
    simp at hmm
    subst hmm
    have key : ∀ k, k < len → ∃ p : Int × Int, w.cell? (a.add (k * 2)) = some (.int .i64 p.1) ∧ w.cell? (a.add (k * 2 + 1)) = some (.int .i64 p.2) := by
      intro k hk
      obtain ⟨cs', hcc, htr⟩ := hel k (by omega)
      rw [hc] at hcc
      obtain ⟨xs, m', _, _, hlen, hxl, hall⟩ := DataW.trod_array he htr
      obtain ⟨_, hcl, hat⟩ := World.cells?_some hcc
      have g0 := hall 0 (by omega)
      have g1 := hall 1 (by omega)
      rw [hc1] at g0 g1
      match cs', hcl with
      | [c0, c1], _ =>
        simp at g0 g1
        rw [List.getElem?_eq_getElem (by omega)] at g0 g1
        obtain ⟨z0, e0, _, _⟩ := DataW.trod_int hi g0
        obtain ⟨z1, e1, _, _⟩ := DataW.trod_int hi g1
        simp at e0 e1
        subst e0 e1
        have a0 := hat 0 (by omega)
        have a1 := hat 1 (by omega)
        simp only [add_add, Nat.add_zero, List.getElem?_cons_zero, List.getElem?_cons_succ] at a0 a1
        exact ⟨(z0, z1), a0, a1⟩
    by_cases h0 : len = 0
    · subst h0
      exact ⟨[], rfl, by omega, .inl rfl⟩
    · obtain ⟨b, off, sp⟩ := a
      obtain ⟨p0, hp0, _⟩ := key 0 (by omega)
      obtain rfl : sp = none := spot_none (by rw [Nat.zero_mul] at hp0; exact hp0)
      have key2 : ∀ k, ∃ p : Int × Int, k < len → w.cell? ⟨b, off + k * 2, none⟩ = some (.int .i64 p.1) ∧ w.cell? ⟨b, off + (k * 2 + 1), none⟩ = some (.int .i64 p.2) := by
        intro k
        by_cases hk : k < len
        · obtain ⟨p, h1, h2⟩ := key k hk
          refine ⟨p, fun _ => ⟨?_, ?_⟩⟩
          · by_cases hk0 : k * 2 = 0
            · simpa [Addr.add, hk0] using h1
            · simpa [Addr.add, hk0] using h1
          · simpa [Addr.add] using h2
        · exact ⟨(0, 0), fun h => absurd h hk⟩
      obtain ⟨F, hF⟩ := Classical.axiomOfChoice key2
      refine ⟨(List.range len).map F, by simp, by omega, .inr ⟨b, off, rfl, fun j v hv => ?_⟩⟩
      have hj : j < (pairsC ((List.range len).map F)).length := (List.getElem?_eq_some_iff.1 hv).1
      rw [pairsC_length] at hj
      simp at hj
      have hk : j / 2 < len := by omega
      have hget : ((List.range len).map F)[j / 2]? = some (F (j / 2)) := by simp [hk]
      obtain ⟨h1, h2⟩ := hF (j / 2) hk
      rcases Nat.mod_two_eq_zero_or_one j with hj2 | hj2
      · have e : j = j / 2 * 2 := by omega
        have := pairsC_at0 hget
        rw [← e, hv] at this
        rw [← e] at h1
        rw [h1, ← this]
      · have e : j = j / 2 * 2 + 1 := by omega
        have := pairsC_at1 hget
        rw [← e, hv] at this
        rw [← e] at h2
        rw [h2, ← this]

end Go.Proofs.Ythgmbiaajgpaaaa
