/- The landed meter keeps its three contracts. -/
import Derived.Test.YtgacckmgbalggaiMtA
import Derived.Test.YtgacckmgbalggaiMtN
import Derived.Test.YtgacckmgbalggaiMtR
