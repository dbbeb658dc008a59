/- What spec.l1In, spec.ReadFixed and impl.ReadFixed answer, at every argument. -/
import Derived.Test.YtebgngofnmcklabRows
import Derived.Test.YtebgngofnmcklabRfMath
import Derived.WalkKit
import Derived.ProofKit
namespace Go.Proofs.Ytebgngofnmcklab
open Go.RowKit
set_option linter.unusedVariables false

end Go.Proofs.Ytebgngofnmcklab
