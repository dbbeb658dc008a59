/- What impl.Var answers, at every argument. -/
import Derived.Test.YtmpbmagbbnlhaabRows
import Derived.Test.YtmpbmagbbnlhaabVarMath
import Derived.Test.YtmpbmagbbnlhaabPutWalks
namespace Go.Proofs.Ytmpbmagbbnlhaab
open Go.RowKit
set_option linter.unusedVariables false

theorem make7 (u : World) : (Instr.makeSlice 27 (.int .i64 7) (.int .i64 7)).run Try.prog u = .ok (.slice (some ⟨u.heap.size, 0, none⟩) 7 7) (u.alloc (.cells (rowB 7 []).toArray 5)) := make_row 7 (by omega) u

end Go.Proofs.Ytmpbmagbbnlhaab
