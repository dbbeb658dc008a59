/- What the walk of liveOk begins with. -/
import Derived.Test.YtohhabbhdpohcaaIOkWalks
import Derived.Test.YtohhabbhdpohcaaEmptyWalks
namespace Go.Proofs.Ytohhabbhdpohcaa
open Go.RowKit
set_option linter.unusedVariables false

end Go.Proofs.Ytohhabbhdpohcaa
