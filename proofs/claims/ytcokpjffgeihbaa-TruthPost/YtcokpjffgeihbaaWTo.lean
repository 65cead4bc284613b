/- The contracts of package truth but Primes. -/
import Derived.Test.YtcokpjffgeihbaaWTo5
