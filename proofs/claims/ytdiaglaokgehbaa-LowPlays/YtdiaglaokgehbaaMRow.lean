/- Rows of numbers do not lie in a block of slices. -/
import Derived.Test.YtdiaglaokgehbaaMkM
namespace Go.Proofs.Ytdiaglaokgehbaa
open Go.RowKit

theorem RowW.cells {w : World} {A : Option Addr} {l : List Nat} (h : Row w A (words l)) {k x : Nat} (hx : l[k]? = some x) : ∃ b off, A = some ⟨b, off, none⟩ ∧ w.cell? ⟨b, off + k, none⟩ = some (.int .u32 (x : Int)) := by
  obtain ⟨b, off, rfl, hc⟩ := h.at (k := k) (by rw [words_length]; exact (List.getElem?_eq_some_iff.1 hx).1)
  exact ⟨b, off, rfl, hc _ _ (words_at hx)⟩
def AllInt (cs : List Value) : Prop := ∀ v ∈ cs, ∃ k n, v = .int k n
theorem ints_int (l : List Int) : AllInt (ints l) := by
  intro v hv
  simp only [ints, List.mem_map] at hv
  obtain ⟨x, _, rfl⟩ := hv
  exact ⟨_, _, rfl⟩
theorem words_int (l : List Nat) : AllInt (words l) := by
  intro v hv
  simp only [words, List.mem_map] at hv
  obtain ⟨x, _, rfl⟩ := hv
  exact ⟨_, _, rfl⟩
theorem labsC_int (l : List Lab) : AllInt (labsC l) := by
  intro v hv
  simp only [labsC, List.mem_flatMap, labC, List.mem_cons, List.not_mem_nil, or_false] at hv
  obtain ⟨x, _, rfl | rfl⟩ := hv
  · exact ⟨_, _, rfl⟩
  · exact ⟨_, _, rfl⟩
theorem Row.farC {w : World} {A : Option Addr} {cs : List Value} {z t : Nat} {A1 A2 A3 : Option Addr} {n1 c1 n2 c2 n3 c3 : Nat} (h : Row w A cs) (hz : w.heap[z]? = some (.cells #[.slice A1 n1 c1, .slice A2 n2 c2, .slice A3 n3 c3] t (0, 0))) (hi : AllInt cs) (j : Nat) (u : Value) :
    Row (w.setCell ⟨z, j, none⟩ u) A cs := by
  rcases h with rfl | ⟨b, off, rfl, hc⟩
  · exact .inl rfl
  · right
    refine ⟨b, off, rfl, fun i v hv => ?_⟩
    have h1 := hc i v hv
    have hne : b ≠ z := by
      rintro rfl
      obtain ⟨k, n, rfl⟩ := hi v (List.mem_of_getElem? hv)
      have h2 : (#[Value.slice A1 n1 c1, .slice A2 n2 c2, .slice A3 n3 c3] : Array Value)[off + i]? = some (.int k n) := by simpa [World.cell?, hz] using h1
      generalize off + i = m at h2
      match m, h2 with
      | 0, h2 => simp at h2
      | 1, h2 => simp at h2
      | 2, h2 => simp at h2
      | m + 3, h2 => simp at h2
    exact (World.cell?_of_block (a := ⟨b, off + i, none⟩) (Below.heap_setCell w ⟨z, j, none⟩ u b hne)).trans h1

end Go.Proofs.Ytdiaglaokgehbaa
