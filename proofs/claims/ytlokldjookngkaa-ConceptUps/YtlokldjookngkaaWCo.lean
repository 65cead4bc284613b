/- The contracts of package concept. -/
import Derived.Test.YtlokldjookngkaaWCo5
