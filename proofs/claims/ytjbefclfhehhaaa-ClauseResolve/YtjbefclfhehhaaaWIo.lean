/- The contracts of package clause. -/
import Derived.Test.YtjbefclfhehhaaaWIo1
import Derived.Test.YtjbefclfhehhaaaWIo5
