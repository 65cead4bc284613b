/- syllogistref.Class. -/
import Derived.Test.YtnoehmokaeegeaaWT1
import Derived.Test.YtnoehmokaeegeaaTr2
namespace Go.Proofs.Ytnoehmokaeegeaa
open Go.RowKit

end Go.Proofs.Ytnoehmokaeegeaa
