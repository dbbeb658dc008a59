/- What spec.l1In, spec.ReadFixed and impl.ReadFixed answer, at every argument. -/
import Derived.Test.YtjihbmkhifnblabRows
import Derived.Test.YtjihbmkhifnblabRfMath
import Derived.WalkKit
import Derived.ProofKit
namespace Go.Proofs.Ytjihbmkhifnblab
open Go.RowKit
set_option linter.unusedVariables false

end Go.Proofs.Ytjihbmkhifnblab
