/- What impl.InEdges answers of a slot from 0 to 7. -/
import Derived.Test.YtcjpepdagnifiaaDoorISlicesWalks
namespace Go.Proofs.YtcjpepdagnifiaaDoor
open Go.RowKit
set_option linter.unusedVariables false

end Go.Proofs.YtcjpepdagnifiaaDoor
