/- '!=' between two handles. -/
import Derived.Test.YtebgngofnmcklabHeapBase
import Derived.Laws.StructEq
namespace Go.Proofs.Ytebgngofnmcklab
open Go.RowKit
set_option linter.unusedVariables false

end Go.Proofs.Ytebgngofnmcklab
