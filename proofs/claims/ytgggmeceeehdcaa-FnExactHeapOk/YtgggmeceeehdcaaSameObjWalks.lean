/- What the walk of liveOk begins with. -/
import Derived.Test.YtgggmeceeehdcaaIOkWalks
import Derived.Test.YtgggmeceeehdcaaEmptyWalks
namespace Go.Proofs.Ytgggmeceeehdcaa
open Go.RowKit
set_option linter.unusedVariables false

end Go.Proofs.Ytgggmeceeehdcaa
