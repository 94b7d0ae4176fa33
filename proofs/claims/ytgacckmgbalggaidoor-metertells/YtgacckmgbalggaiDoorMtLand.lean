/- The landed meter keeps its three contracts. -/
import Derived.Test.YtgacckmgbalggaiDoorMtA
import Derived.Test.YtgacckmgbalggaiDoorMtN
import Derived.Test.YtgacckmgbalggaiDoorMtR
