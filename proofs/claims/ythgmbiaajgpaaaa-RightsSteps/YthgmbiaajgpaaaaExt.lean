/- What the package-level tables that the program reads hold. -/
import Derived.Test.YthgmbiaajgpaaaaBase
namespace Go.Proofs.Ythgmbiaajgpaaaa
open Go.RowKit

/-- No table is read. -/
def Laid (_ : World) : Prop := True
theorem Laid.below {w w' : World} (_ : Laid w) (_ : Below w.heap.size w w') : Laid w' := trivial

end Go.Proofs.Ythgmbiaajgpaaaa
