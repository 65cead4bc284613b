/- A struct of many cells in a block of its own: read whole and written whole. -/
import Derived.Test.YtlpjpnlfmjehnaaRm
import Derived.Deep.WholeRow
namespace Go.Proofs.Ytlpjpnlfmjehnaa
open Go.RowKit

section
variable {w0 w : World} {rs : List Rw} {k g : Nat} {e : TypeId} {size : Nat} {xs : List Value}
theorem RowsM.boxHeap (h : RowsM w0 rs w) (hr : rs[k]? = some ⟨e, size, .slice (some ⟨g, 0, none⟩) 1 1, 1, xs⟩) : w.heap[g]? = some (.cells xs.toArray e (0, 0)) ∧ xs.length = size ∧ w0.heap.size ≤ g := by
  have h1 := h.at_ k _ hr
  rcases h1.2 with ⟨hv, _⟩ | ⟨g', cap, cur, hv, hb, hh, _, _, hs, ht⟩
  · simp at hv
  · simp only [Value.slice.injEq, Option.some.injEq, Addr.mk.injEq, and_true, true_and] at hv
    obtain ⟨rfl, rfl⟩ := hv
    simp only at hh hs ht
    have hl : xs.length = size := by have := h1.1; simpa using this
    have ht' : cur.toList = xs := by
      rw [← ht]
      exact (List.take_of_length_le (by simp; omega)).symm
    refine ⟨?_, hl, hb⟩
    rw [hh, ← ht']
/-- Another value in its place. -/
theorem RowsM.storeAll (h : RowsM w0 rs w) (hr : rs[k]? = some ⟨e, size, .slice (some ⟨g, 0, none⟩) 1 1, 1, xs⟩) (c : Array Value) (hc : c.size = size) :
    RowsM w0 (rs.set k ⟨e, size, .slice (some ⟨g, 0, none⟩) 1 1, 1, c.toList⟩) (w.setRow g c) := by
  obtain ⟨hh, hl, hb⟩ := h.boxHeap hr
  have hb' := h.below
  refine h.put hr ⟨hb'.os, hb'.tape, hb'.output, by rw [setRow_size]; exact hb'.size, fun i hi => by rw [setRow_other w g i c (by omega)]; exact hb'.block i hi⟩ ?_ (fun s hs ho => ?_) (fun s _ ho => ho)
  · exact ⟨by simpa using hc, .inr ⟨g, 1, c, rfl, hb, setRow_heap w g _ c e _ hh, Nat.le_refl _, by simp [maxLen], by show c.size = 1 * size; omega, by show List.take (1 * size) c.toList = c.toList; exact List.take_of_length_le (by simp; omega)⟩⟩
  · rcases hs.2 with ⟨hv, hn⟩ | ⟨g', cap, cur, hv, hb2, hh2, h3⟩
    · exact ⟨hs.1, .inl ⟨hv, hn⟩⟩
    · refine ⟨hs.1, .inr ⟨g', cap, cur, hv, hb2, ?_, h3⟩⟩
      rw [setRow_other w g g' c (fun e => ho g rfl (by rw [hv, e]; rfl))]
      exact hh2
theorem box_store {P : Program} (h : RowsM w0 rs w) (hr : rs[k]? = some ⟨e, size, .slice (some ⟨g, 0, none⟩) 1 1, 1, xs⟩) (c : Array Value) (hc : c.size = size) (h1 : c.all (·.oneCell') = true) :
    (storeCells ⟨g, 0, none⟩ c.toList 0).run P w = .ok () (w.setRow g c) := by
  obtain ⟨hh, hl, _⟩ := h.boxHeap hr
  have := run_storeCells_from (P := P) g e c.toList 0 xs.toArray w hh (by simp; omega) (fun v hv => (Array.all_eq_true_iff_forall_mem.1 h1) v (by simpa using hv))
  simpa using this
theorem box_load {P : Program} (h : RowsM w0 rs w) (hr : rs[k]? = some ⟨e, size, .slice (some ⟨g, 0, none⟩) 1 1, 1, xs⟩) :
    (loadCellsFrom ⟨g, 0, none⟩ 0 size #[]).run P w = .ok xs.toArray w := by
  obtain ⟨hh, hl, _⟩ := h.boxHeap hr
  have := run_loadCells_list (P := P) w ⟨g, 0, none⟩ xs (fun j v hv => by
    have hadd : (⟨g, 0, none⟩ : Addr).add j = ⟨g, j, none⟩ := by unfold Addr.add; split <;> simp_all
    rw [hadd, cell_of_row _ _ j _ _ (0, 0) hh]
    simpa using hv)
  rw [hl] at this
  exact this
end

end Go.Proofs.Ytlpjpnlfmjehnaa
