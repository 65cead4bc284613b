/- syllogistref.Primes. -/
import Derived.Test.YtnoehmokaeegeaaTr3
namespace Go.Proofs.Ytnoehmokaeegeaa
open Go.RowKit

end Go.Proofs.Ytnoehmokaeegeaa
