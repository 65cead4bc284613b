/- The functions of package between. -/
import Derived.Test.YtcebbhfpnkhlmaaWKo4
