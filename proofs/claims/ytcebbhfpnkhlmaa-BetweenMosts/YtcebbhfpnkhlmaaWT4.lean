/- syllogistref.Primes. -/
import Derived.Test.YtcebbhfpnkhlmaaTr3
namespace Go.Proofs.Ytcebbhfpnkhlmaa
open Go.RowKit

end Go.Proofs.Ytcebbhfpnkhlmaa
