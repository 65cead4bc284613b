/- The functions of package choice keep their contracts. -/
import Derived.Test.YtnoehmokaeegeaaWHo3
