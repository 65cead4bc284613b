/- What the package-level tables that the program reads hold. -/
import Derived.Test.YtekeeodnjlebcaaDoorBase
import Derived.Shelf.Spec.TrailingZeros
namespace Go.Proofs.YtekeeodnjlebcaaDoor
open Go.RowKit

/-- The table of math/bits.TrailingZeros32 lies as its initialiser lays it. -/
def Laid (w : World) : Prop := ∀ j, j < 32 → w.cell? ⟨0, j, none⟩ = some (.int .u8 (Lib.deBruijn32tab.getD j 0))
theorem Laid.below {w w' : World} (h : Laid w) (hb : Below w.heap.size w w') : Laid w' := fun j hj => by
  have h1 := h j hj
  exact (hb.cell (p := ⟨0, j, none⟩) (block_lt_of_cell h1)).trans h1

end Go.Proofs.YtekeeodnjlebcaaDoor
