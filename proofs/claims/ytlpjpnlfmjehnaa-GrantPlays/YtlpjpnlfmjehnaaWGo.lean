/- grant: the contracts of Play, Can and Way. -/
import Derived.Test.YtlpjpnlfmjehnaaWGo7
import Derived.Test.YtlpjpnlfmjehnaaWGo9
import Derived.Test.YtlpjpnlfmjehnaaWGoD
