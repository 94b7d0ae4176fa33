/- What is asked of package log, of the landed one. -/
import Derived.Test.YtdldgefahgojaakGreatDoorLgLS
import Derived.Test.YtdldgefahgojaakGreatDoorLgLN
import Derived.Test.YtdldgefahgojaakGreatDoorLgLD
import Derived.Test.YtdldgefahgojaakGreatDoorLgLP
import Derived.Test.YtdldgefahgojaakGreatDoorLgLG
