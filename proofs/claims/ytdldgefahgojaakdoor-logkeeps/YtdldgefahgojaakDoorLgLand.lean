/- What is asked of package log, of the landed one. -/
import Derived.Test.YtdldgefahgojaakDoorLgLS
import Derived.Test.YtdldgefahgojaakDoorLgLN
import Derived.Test.YtdldgefahgojaakDoorLgLD
import Derived.Test.YtdldgefahgojaakDoorLgLP
import Derived.Test.YtdldgefahgojaakDoorLgLG
