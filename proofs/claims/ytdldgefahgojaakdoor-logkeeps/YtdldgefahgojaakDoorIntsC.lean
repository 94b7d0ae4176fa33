/- The document's Net (package fairref1) over a net that is only read. -/
import Derived.Test.YtdldgefahgojaakDoorIntsB
namespace Go.Proofs.YtdldgefahgojaakDoor
namespace Ns
open Go.RowKit
set_option linter.unusedSimpArgs false
set_option linter.unusedVariables false

end Ns
end Go.Proofs.YtdldgefahgojaakDoor
