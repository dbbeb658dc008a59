/- What spec.l1In, spec.ReadFixed and impl.ReadFixed answer, at every argument. -/
import Derived.Test.YtjhdnachbahbmaaRows
import Derived.Test.YtjhdnachbahbmaaRfMath
import Derived.WalkKit
import Derived.ProofKit
namespace Go.Proofs.Ytjhdnachbahbmaa
open Go.RowKit
set_option linter.unusedVariables false

end Go.Proofs.Ytjhdnachbahbmaa
