/-
  DERIVED. GIVEN WITH THE SEED: THE PROGRAM's TIES (one call each: nine closed facts by the kernel) AND EACH ROW's TIE, after the 31st guide's Derived/Test/Toyas{Tie, Card}.lean. No idea stands in it: it is a product of the set-up. Laid BY PROGRAM, IN A SANDBOX (cutbox-door.mjs). By AI agents, Wed Nov 11 2026. No macro, syntax, notation, axiom, sorry.
-/
import Derived.Test.YthagjamgmlbhkaaDoorRows
import Derived.LaidByTextLater
import Derived.SevenTiedAt
import Derived.LaidSub
import Derived.LaidOnce
namespace Go.Proofs.YthagjamgmlbhkaaDoor
open Go
set_option maxRecDepth 100000
theorem seatTie1 : Tryd.prog.laidByTextLater [("loop.example/g01412/impl.sumTable", Rows.laid_loop_example_g01412_impl_sumTable), ("loop.example/g01412/impl.errHead", Rows.laid_loop_example_g01412_impl_errHead), ("loop.example/g01412/impl.errFrame", Rows.laid_loop_example_g01412_impl_errFrame), ("loop.example/g01412/impl.errSeq", Rows.laid_loop_example_g01412_impl_errSeq), ("loop.example/g01412/impl.errEnd", Rows.laid_loop_example_g01412_impl_errEnd), ("loop.example/g01412/impl.errMore", Rows.laid_loop_example_g01412_impl_errMore)] [.data, .sentinel, .sentinel, .sentinel, .sentinel, .sentinel] true :=
  Program.laidByTextLater_by_one 109 8 17 (by kernel_rfl) (by kernel_rfl) (by kernel_rfl) (by kernel_rfl) (by kernel_rfl) (by kernel_rfl) (fun _ _ => by kernel_rfl)
theorem noOwnUnsafe : Tryd.pinned.checked.prog.headLifts.contains "ownunsafe" = false := by kernel_rfl
theorem tie : Tryd.prog.laidByTextLater [("loop.example/g01412/impl.sumTable", Rows.laid_loop_example_g01412_impl_sumTable), ("loop.example/g01412/impl.errHead", Rows.laid_loop_example_g01412_impl_errHead), ("loop.example/g01412/impl.errFrame", Rows.laid_loop_example_g01412_impl_errFrame), ("loop.example/g01412/impl.errSeq", Rows.laid_loop_example_g01412_impl_errSeq), ("loop.example/g01412/impl.errEnd", Rows.laid_loop_example_g01412_impl_errEnd), ("loop.example/g01412/impl.errMore", Rows.laid_loop_example_g01412_impl_errMore)] [.data, .sentinel, .sentinel, .sentinel, .sentinel, .sentinel] true :=
  Program.laidByTextLater.sub seatTie1 ["loop.example/g01412/impl.sumTable", "loop.example/g01412/impl.errHead", "loop.example/g01412/impl.errFrame", "loop.example/g01412/impl.errSeq", "loop.example/g01412/impl.errEnd", "loop.example/g01412/impl.errMore"] (by kernel_rfl) (by kernel_rfl)
theorem fnFrames_row_tie : Rows.fnFramesRow.laidByTextAt .later Tryd.pinned [.data, .sentinel, .sentinel, .sentinel, .sentinel, .sentinel] true :=
  OpenClaim.laidByTextAt_later rfl rfl tie noOwnUnsafe
theorem fnExactReadLog_row_tie : Rows.fnExactReadLogRow.laidByTextAt .later Tryd.pinned [.data, .sentinel, .sentinel, .sentinel, .sentinel, .sentinel] true :=
  OpenClaim.laidByTextAt_later rfl rfl tie noOwnUnsafe
theorem tie2 : Tryd.prog.laidByTextLater [("loop.example/g01412/impl.sumTable", Rows.laid_loop_example_g01412_impl_sumTable)] [.data] true :=
  Program.laidByTextLater.sub seatTie1 ["loop.example/g01412/impl.sumTable"] (by kernel_rfl) (by kernel_rfl)
theorem fnExactShowFrame_row_tie : Rows.fnExactShowFrameRow.laidByTextAt .later Tryd.pinned [.data] true :=
  OpenClaim.laidByTextAt_later rfl rfl tie2 noOwnUnsafe
theorem fnExactReadFrame_row_tie : Rows.fnExactReadFrameRow.laidByTextAt .later Tryd.pinned [.data] true :=
  OpenClaim.laidByTextAt_later rfl rfl tie2 noOwnUnsafe
theorem fnExactShowLog_row_tie : Rows.fnExactShowLogRow.laidByTextAt .later Tryd.pinned [.data] true :=
  OpenClaim.laidByTextAt_later rfl rfl tie2 noOwnUnsafe
theorem tie3 : Tryd.prog.laidByTextLater [("loop.example/g01412/impl.sumTable", Rows.laid_loop_example_g01412_impl_sumTable), ("loop.example/g01412/impl.errHead", Rows.laid_loop_example_g01412_impl_errHead), ("loop.example/g01412/impl.errFrame", Rows.laid_loop_example_g01412_impl_errFrame), ("loop.example/g01412/impl.errEnd", Rows.laid_loop_example_g01412_impl_errEnd)] [.data, .sentinel, .sentinel, .sentinel] true :=
  Program.laidByTextLater.sub seatTie1 ["loop.example/g01412/impl.sumTable", "loop.example/g01412/impl.errHead", "loop.example/g01412/impl.errFrame", "loop.example/g01412/impl.errEnd"] (by kernel_rfl) (by kernel_rfl)
theorem fnExactFrameSpots_row_tie : Rows.fnExactFrameSpotsRow.laidByTextAt .later Tryd.pinned [.data, .sentinel, .sentinel, .sentinel] true :=
  OpenClaim.laidByTextAt_later rfl rfl tie3 noOwnUnsafe
theorem fnFramesUpto_row_tie : Rows.fnFramesUptoRow.laidByTextAt .later Tryd.pinned [.data, .sentinel, .sentinel, .sentinel, .sentinel, .sentinel] true :=
  OpenClaim.laidByTextAt_later rfl rfl tie noOwnUnsafe
theorem fnExactShowFrameUpto_row_tie : Rows.fnExactShowFrameUptoRow.laidByTextAt .later Tryd.pinned [.data] true :=
  OpenClaim.laidByTextAt_later rfl rfl tie2 noOwnUnsafe
theorem fnExactReadFrameUpto_row_tie : Rows.fnExactReadFrameUptoRow.laidByTextAt .later Tryd.pinned [.data] true :=
  OpenClaim.laidByTextAt_later rfl rfl tie2 noOwnUnsafe
theorem fnExactShowLogUpto_row_tie : Rows.fnExactShowLogUptoRow.laidByTextAt .later Tryd.pinned [.data] true :=
  OpenClaim.laidByTextAt_later rfl rfl tie2 noOwnUnsafe
theorem fnExactReadLogUpto_row_tie : Rows.fnExactReadLogUptoRow.laidByTextAt .later Tryd.pinned [.data, .sentinel, .sentinel, .sentinel, .sentinel, .sentinel] true :=
  OpenClaim.laidByTextAt_later rfl rfl tie noOwnUnsafe
theorem fnExactFrameSpotsUpto_row_tie : Rows.fnExactFrameSpotsUptoRow.laidByTextAt .later Tryd.pinned [.data, .sentinel, .sentinel, .sentinel] true :=
  OpenClaim.laidByTextAt_later rfl rfl tie3 noOwnUnsafe
end Go.Proofs.YthagjamgmlbhkaaDoor
