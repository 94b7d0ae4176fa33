/- The landed road keeps what is asked of it: New, Tick, Source, Pool, Waits. -/
import Derived.Test.YtkpmjmgmgkdfnajDoorRdLN
import Derived.Test.YtkpmjmgmgkdfnajDoorRdLT
import Derived.Test.YtkpmjmgmgkdfnajDoorRdLG
