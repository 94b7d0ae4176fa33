/- The landed grow's contracts, all three. -/
import Derived.Test.YtajihmkbnepbjajGwM
import Derived.Test.YtajihmkbnepbjajGwF
import Derived.Test.YtajihmkbnepbjajGwW
