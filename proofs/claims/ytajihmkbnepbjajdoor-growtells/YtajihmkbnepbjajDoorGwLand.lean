/- The landed grow's contracts, all three. -/
import Derived.Test.YtajihmkbnepbjajDoorGwM
import Derived.Test.YtajihmkbnepbjajDoorGwF
import Derived.Test.YtajihmkbnepbjajDoorGwW
