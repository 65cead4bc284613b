/- The functions of package two keep their contracts. -/
import Derived.Test.YtekeeodnjlebcaaDoorWJo1
import Derived.Test.YtekeeodnjlebcaaDoorWJo6
