/- What the walk of liveOk begins with. -/
import Derived.Test.YtebgngofnmcklaaIOkWalks
import Derived.Test.YtebgngofnmcklaaEmptyWalks
namespace Go.Proofs.Ytebgngofnmcklaa
open Go.RowKit
set_option linter.unusedVariables false

end Go.Proofs.Ytebgngofnmcklaa
