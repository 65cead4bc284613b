/- syllogistref.Class. -/
import Derived.Test.YtcebbhfpnkhlmaaWT1
import Derived.Test.YtcebbhfpnkhlmaaTr2
namespace Go.Proofs.Ytcebbhfpnkhlmaa
open Go.RowKit

end Go.Proofs.Ytcebbhfpnkhlmaa
