/- syllogistref.LabelCheck, Below, Both, Common; law.labelsCode. -/
import Derived.Test.YtlpjpnlfmjehnaaLb
import Derived.OneCell
namespace Go.Proofs.Ytlpjpnlfmjehnaa
open Go.RowKit

theorem lblk_keep {w w' : World} {g : Nat} {o : Obj} (hb : Below w.heap.size w w') (h : w.heap[g]? = some o) : w'.heap[g]? = some o := (hb.block g (lt_of_block h)).trans h
theorem lblk_alloc {w : World} {g : Nat} {o : Obj} (h : w.heap[g]? = some o) (o2 : Obj) : (w.alloc o2).heap[g]? = some o := lblk_keep ((Below.refl _ _).alloc (Nat.le_refl _) _) h
theorem ltwo_cells {w : World} {g : Nat} {x y : Value} {t : TypeId} {fl : Nat × Nat} (h : w.heap[g]? = some (.cells #[x, y] t fl)) : w.cell? ⟨g, 0, none⟩ = some x ∧ w.cell? ⟨g, 1, none⟩ = some y := by
  constructor <;> simp [World.cell?, h]
/-- A label lies in a block. -/
def LabAt (w : World) (g : Nat) (a : Lab) : Prop := w.cell? ⟨g, 0, none⟩ = some (.int .i64 a.1) ∧ w.cell? ⟨g, 1, none⟩ = some (.int .u32 (a.2 : Int))
theorem LabAt.below {w w' : World} {g : Nat} {a : Lab} (h : LabAt w g a) (hb : Below w.heap.size w w') : LabAt w' g a :=
  ⟨(hb.cell (p := ⟨g, 0, none⟩) (block_lt_of_cell h.1)).trans h.1, (hb.cell (p := ⟨g, 1, none⟩) (block_lt_of_cell h.2)).trans h.2⟩
theorem LabAt.new (w : World) (a : Lab) (t : TypeId) : LabAt (w.alloc (.cells #[.int .i64 a.1, .int .u32 (a.2 : Int)] t)) w.heap.size a := ltwo_cells (heap_alloc_new w _)

/-- Two labels were boxed. -/
structure TwoBox (a b : Lab) (w w2 : World) : Prop where
  a0 : w2.heap[w.heap.size]? = some (.cells #[.int .i64 a.1, .int .u32 (a.2 : Int)] 44 (0, 0))
  b0 : w2.heap[w.heap.size + 1]? = some (.cells #[.int .i64 b.1, .int .u32 (b.2 : Int)] 44 (0, 0))
  bel : Below w.heap.size w w2
  size : w2.heap.size = w.heap.size + 1 + 1
theorem twoBox (a b : Lab) (w : World) : TwoBox a b w ((w.alloc (.cells #[.int .i64 a.1, .int .u32 (a.2 : Int)] 44)).alloc (.cells #[.int .i64 b.1, .int .u32 (b.2 : Int)] 44)) := by
  have h1 := (Below.refl w.heap.size w).alloc (Nat.le_refl _) (.cells #[.int .i64 a.1, .int .u32 (a.2 : Int)] 44)
  have k2 := heap_alloc_new (w.alloc (.cells #[.int .i64 a.1, .int .u32 (a.2 : Int)] 44)) (.cells #[.int .i64 b.1, .int .u32 (b.2 : Int)] 44)
  simp only [World.size_alloc] at k2
  exact ⟨lblk_alloc (heap_alloc_new w _) _, k2, h1.alloc h1.size _, by simp⟩
theorem TwoBox.atA {a b : Lab} {w w2 : World} (h : TwoBox a b w w2) : LabAt w2 w.heap.size a := ltwo_cells h.a0
theorem TwoBox.atB {a b : Lab} {w w2 : World} (h : TwoBox a b w w2) : LabAt w2 (w.heap.size + 1) b := ltwo_cells h.b0

theorem ltwo_set0 {w : World} {g : Nat} {x y u : Value} {t : TypeId} (h : w.heap[g]? = some (.cells #[x, y] t (0, 0))) :
    (w.setCell ⟨g, 0, none⟩ u).heap[g]? = some (.cells #[u, y] t (0, 0)) := by
  have hlt := lt_of_block h
  have h' : w.heap[g] = .cells #[x, y] t (0, 0) := by simpa [Array.getElem?_eq_getElem hlt] using h
  show (w.heap.modify g _)[g]? = _
  rw [Array.getElem?_eq_getElem (by simpa using hlt), Array.getElem_modify_self, h']
  rfl
theorem ltwo_set1 {w : World} {g : Nat} {x y u : Value} {t : TypeId} (h : w.heap[g]? = some (.cells #[x, y] t (0, 0))) :
    (w.setCell ⟨g, 1, none⟩ u).heap[g]? = some (.cells #[x, u] t (0, 0)) := by
  have hlt := lt_of_block h
  have h' : w.heap[g] = .cells #[x, y] t (0, 0) := by simpa [Array.getElem?_eq_getElem hlt] using h
  show (w.heap.modify g _)[g]? = _
  rw [Array.getElem?_eq_getElem (by simpa using hlt), Array.getElem_modify_self, h']
  rfl
theorem lother {w : World} {g g' o : Nat} {ob : Obj} {v : Value} (h : w.heap[g']? = some ob) (hg : g' ≠ g) : (w.setCell ⟨g, o, none⟩ v).heap[g']? = some ob := (Below.heap_setCell _ _ _ _ hg).trans h
theorem TwoBox.three {a b : Lab} {w w2 : World} (h : TwoBox a b w w2) : (w2.alloc (.cells #[.int .i64 0, .int .u32 0] 44)).heap[w.heap.size]? = some (.cells #[.int .i64 a.1, .int .u32 (a.2 : Int)] 44 (0, 0)) ∧
    (w2.alloc (.cells #[.int .i64 0, .int .u32 0] 44)).heap[w.heap.size + 1]? = some (.cells #[.int .i64 b.1, .int .u32 (b.2 : Int)] 44 (0, 0)) ∧
    (w2.alloc (.cells #[.int .i64 0, .int .u32 0] 44)).heap[w.heap.size + 1 + 1]? = some (.cells #[.int .i64 0, .int .u32 0] 44 (0, 0)) ∧ Below w.heap.size w (w2.alloc (.cells #[.int .i64 0, .int .u32 0] 44)) := by
  refine ⟨lblk_alloc h.a0 _, lblk_alloc h.b0 _, ?_, h.bel.alloc h.bel.size _⟩
  rw [← h.size]
  exact heap_alloc_new w2 _

end Go.Proofs.Ytlpjpnlfmjehnaa
