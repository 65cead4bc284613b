/- The contracts of package truth. -/
import Derived.Test.YtcokpjffgeihbaaWTo5
import Derived.Test.YtcokpjffgeihbaaWTo9
