/- syllogistref.Resolve. -/
import Derived.Test.YtekeeodnjlebcaaDoorWI1
import Derived.Test.YtekeeodnjlebcaaDoorAppAny
import Derived.Laws.StructEq
import Derived.OneCell
namespace Go.Proofs.YtekeeodnjlebcaaDoor
open Go.RowKit

/-- What Resolve answers. -/
def resT (a b : Cla) : Value := .tuple #[.agg #[.int .u32 (((resv a b).getD (0, 0)).1 : Nat), .int .u32 (((resv a b).getD (0, 0)).2 : Nat)], .bool (resv a b).isSome]

theorem blk_keep {w w' : World} {g : Nat} {o : Obj} (hb : Below w.heap.size w w') (h : w.heap[g]? = some o) : w'.heap[g]? = some o := (hb.block g (lt_of_block h)).trans h
theorem blk_alloc {w : World} {g : Nat} {o : Obj} (h : w.heap[g]? = some o) (o2 : Obj) : (w.alloc o2).heap[g]? = some o := blk_keep ((Below.refl _ _).alloc (Nat.le_refl _) _) h
theorem two_cells {w : World} {g : Nat} {x y : Value} {t : TypeId} {fl : Nat × Nat} (h : w.heap[g]? = some (.cells #[x, y] t fl)) : w.cell? ⟨g, 0, none⟩ = some x ∧ w.cell? ⟨g, 1, none⟩ = some y := by
  constructor <;> simp [World.cell?, h]
theorem twoC_set0 {w : World} {g : Nat} {x y u : Value} {t : TypeId} (h : w.heap[g]? = some (.cells #[x, y] t (0, 0))) :
    (w.setCell ⟨g, 0, none⟩ u).heap[g]? = some (.cells #[u, y] t (0, 0)) := by
  have hlt := lt_of_block h
  have h' : w.heap[g] = .cells #[x, y] t (0, 0) := by simpa [Array.getElem?_eq_getElem hlt] using h
  show (w.heap.modify g _)[g]? = _
  rw [Array.getElem?_eq_getElem (by simpa using hlt), Array.getElem_modify_self, h']
  rfl
theorem twoC_set1 {w : World} {g : Nat} {x y u : Value} {t : TypeId} (h : w.heap[g]? = some (.cells #[x, y] t (0, 0))) :
    (w.setCell ⟨g, 1, none⟩ u).heap[g]? = some (.cells #[x, u] t (0, 0)) := by
  have hlt := lt_of_block h
  have h' : w.heap[g] = .cells #[x, y] t (0, 0) := by simpa [Array.getElem?_eq_getElem hlt] using h
  show (w.heap.modify g _)[g]? = _
  rw [Array.getElem?_eq_getElem (by simpa using hlt), Array.getElem_modify_self, h']
  rfl
theorem twoC_setCell {w : World} {g : Nat} {x y u v : Value} {t : TypeId} (h : w.heap[g]? = some (.cells #[x, y] t (0, 0))) :
    ((w.setCell ⟨g, 0, none⟩ u).setCell ⟨g, 1, none⟩ v).heap[g]? = some (.cells #[u, v] t (0, 0)) := twoC_set1 (twoC_set0 h)
/-- Where the two clauses and the answer lie. -/
structure ResW (a b : Cla) (w w3 : World) : Prop where
  a1 : w3.cell? ⟨w.heap.size, 0, none⟩ = some (.int .u32 (a.1 : Int))
  a2 : w3.cell? ⟨w.heap.size, 1, none⟩ = some (.int .u32 (a.2 : Int))
  b1 : w3.cell? ⟨w.heap.size + 1, 0, none⟩ = some (.int .u32 (b.1 : Int))
  b2 : w3.cell? ⟨w.heap.size + 1, 1, none⟩ = some (.int .u32 (b.2 : Int))
  z : w3.heap[w.heap.size + 1 + 1]? = some (.cells #[.int .u32 0, .int .u32 0] 37 (0, 0))
  bel : Below w.heap.size w w3
theorem resW (a b : Cla) (w : World) : ResW a b w (((w.alloc (.cells #[.int .u32 (a.1 : Int), .int .u32 (a.2 : Int)] 37)).alloc (.cells #[.int .u32 (b.1 : Int), .int .u32 (b.2 : Int)] 37)).alloc (.cells #[.int .u32 0, .int .u32 0] 37)) := by
  have h1 := (Below.refl w.heap.size w).alloc (Nat.le_refl _) (.cells #[.int .u32 (a.1 : Int), .int .u32 (a.2 : Int)] 37)
  have h2 := h1.alloc h1.size (.cells #[.int .u32 (b.1 : Int), .int .u32 (b.2 : Int)] 37)
  have h3 := h2.alloc h2.size (.cells #[.int .u32 0, .int .u32 0] 37)
  have k1 := heap_alloc_new w (.cells #[.int .u32 (a.1 : Int), .int .u32 (a.2 : Int)] 37)
  have k2 := heap_alloc_new (w.alloc (.cells #[.int .u32 (a.1 : Int), .int .u32 (a.2 : Int)] 37)) (.cells #[.int .u32 (b.1 : Int), .int .u32 (b.2 : Int)] 37)
  have k3 := heap_alloc_new ((w.alloc (.cells #[.int .u32 (a.1 : Int), .int .u32 (a.2 : Int)] 37)).alloc (.cells #[.int .u32 (b.1 : Int), .int .u32 (b.2 : Int)] 37)) (.cells #[.int .u32 0, .int .u32 0] 37)
  have m1 := blk_alloc (blk_alloc k1 (.cells #[.int .u32 (b.1 : Int), .int .u32 (b.2 : Int)] 37)) (.cells #[.int .u32 0, .int .u32 0] 37)
  have m2 := blk_alloc k2 (.cells #[.int .u32 0, .int .u32 0] 37)
  simp only [World.size_alloc] at m2 k3
  exact ⟨(two_cells m1).1, (two_cells m1).2, (two_cells m2).1, (two_cells m2).2, k3, h3⟩

end Go.Proofs.YtekeeodnjlebcaaDoor
