/- What spec.Dec answers, at every number. -/
import Derived.Test.YtdkdjelbgegmeabDoorRows
import Derived.Test.YtdkdjelbgegmeabDoorDecMath
import Derived.WalkKit
import Derived.ProofKit
namespace Go.Proofs.YtdkdjelbgegmeabDoor
open Go.RowKit
set_option linter.unusedVariables false

end Go.Proofs.YtdkdjelbgegmeabDoor
