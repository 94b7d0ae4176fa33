/- The landed road keeps what is asked of it: New, Tick, Source, Pool, Waits. -/
import Derived.Test.YtkpmjmgmgkdfnaiRdLN
import Derived.Test.YtkpmjmgmgkdfnaiRdLT
import Derived.Test.YtkpmjmgmgkdfnaiRdLG
