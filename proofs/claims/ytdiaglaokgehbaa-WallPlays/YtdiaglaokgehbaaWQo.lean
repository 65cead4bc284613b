/- The contracts of wall.Fewest and wall.Play. -/
import Derived.Test.YtdiaglaokgehbaaWQo3
import Derived.Test.YtdiaglaokgehbaaWQo4
namespace Go.Proofs.Ytdiaglaokgehbaa

end Go.Proofs.Ytdiaglaokgehbaa
