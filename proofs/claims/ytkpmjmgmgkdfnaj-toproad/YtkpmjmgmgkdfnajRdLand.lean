/- The landed road keeps what is asked of it: New, Tick, Source, Pool, Waits. -/
import Derived.Test.YtkpmjmgmgkdfnajRdLN
import Derived.Test.YtkpmjmgmgkdfnajRdLT
import Derived.Test.YtkpmjmgmgkdfnajRdLG
