/- The functions of package two keep their contracts. -/
import Derived.Test.YtekeeodnjlebcaaWJo1
