/- The contract of mark.Play. -/
import Derived.Test.YtkonpadodldneaaWMo4
namespace Go.Proofs.Ytkonpadodldneaa

end Go.Proofs.Ytkonpadodldneaa
