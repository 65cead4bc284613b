/- The contract of mark.Play. -/
import Derived.Test.YtdiaglaokgehbaaWMo4
namespace Go.Proofs.Ytdiaglaokgehbaa

end Go.Proofs.Ytdiaglaokgehbaa
