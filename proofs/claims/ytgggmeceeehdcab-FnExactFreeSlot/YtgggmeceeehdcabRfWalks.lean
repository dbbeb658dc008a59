/- What spec.l1In, spec.ReadFixed and impl.ReadFixed answer, at every argument. -/
import Derived.Test.YtgggmeceeehdcabRows
import Derived.Test.YtgggmeceeehdcabRfMath
import Derived.WalkKit
import Derived.ProofKit
namespace Go.Proofs.Ytgggmeceeehdcab
open Go.RowKit
set_option linter.unusedVariables false

end Go.Proofs.Ytgggmeceeehdcab
