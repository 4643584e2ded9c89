import Derived.Test.YtiinalgflmgnaabDoorNfC
import Derived.Lib.Bytealg
import Derived.Lib.MinMax
namespace Go.Proofs.YtiinalgflmgnaabDoor
open Go.RowKit
set_option linter.unusedVariables false
variable {w : World}
end Go.Proofs.YtiinalgflmgnaabDoor
