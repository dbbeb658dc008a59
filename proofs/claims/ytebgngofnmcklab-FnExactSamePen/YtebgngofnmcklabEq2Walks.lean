/- What slices.Equal at handles, slices.EqualFunc over impl.sameObj, and impl.SameHeap answer. -/
import Derived.Test.YtebgngofnmcklabEqWalks
import Derived.Test.YtebgngofnmcklabWeakEq
namespace Go.Proofs.Ytebgngofnmcklab
open Go.RowKit
set_option linter.unusedVariables false

end Go.Proofs.Ytebgngofnmcklab
