/- What is asked of package log, of the landed one. -/
import Derived.Test.YtdldgefahgojaajDoorLgLS
import Derived.Test.YtdldgefahgojaajDoorLgLN
import Derived.Test.YtdldgefahgojaajDoorLgLD
import Derived.Test.YtdldgefahgojaajDoorLgLP
import Derived.Test.YtdldgefahgojaajDoorLgLG
