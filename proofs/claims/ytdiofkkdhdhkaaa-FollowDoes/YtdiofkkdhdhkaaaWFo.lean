/- The contracts of package follow: Close_ok, Does_ok, Closed_ok (WFo4), Keys_ok (WFo6), Least_ok (WFo10). -/
import Derived.Test.YtdiofkkdhdhkaaaWFo6
import Derived.Test.YtdiofkkdhdhkaaaWFo10
