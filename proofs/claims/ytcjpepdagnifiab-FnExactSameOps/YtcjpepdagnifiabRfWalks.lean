/- What spec.l1In, spec.ReadFixed and impl.ReadFixed answer, at every argument. -/
import Derived.Test.YtcjpepdagnifiabRows
import Derived.Test.YtcjpepdagnifiabRfMath
import Derived.WalkKit
import Derived.ProofKit
namespace Go.Proofs.Ytcjpepdagnifiab
open Go.RowKit
set_option linter.unusedVariables false

end Go.Proofs.Ytcjpepdagnifiab
