/- The contract of mark.Play. -/
import Derived.Test.YtmmhggldknefoaaWMo4
namespace Go.Proofs.Ytmmhggldknefoaa

end Go.Proofs.Ytmmhggldknefoaa
