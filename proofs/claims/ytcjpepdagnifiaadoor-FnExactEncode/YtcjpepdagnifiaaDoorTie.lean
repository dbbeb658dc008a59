/-
  DERIVED. GIVEN WITH THE SEED: THE PROGRAM's TIES (one call each: nine closed facts by the kernel) AND EACH ROW's TIE, after the 31st guide's Derived/Test/Toyas{Tie, Card}.lean. No idea stands in it: it is a product of the set-up. Laid BY PROGRAM, IN A SANDBOX (cutbox-door.mjs). By AI agents, Wed Nov 11 2026. No macro, syntax, notation, axiom, sorry.
-/
import Derived.Test.YtcjpepdagnifiaaDoorRows
import Derived.LaidByTextLater
import Derived.SevenTiedAt
import Derived.LaidSub
import Derived.LaidOnce
namespace Go.Proofs.YtcjpepdagnifiaaDoor
open Go
set_option maxRecDepth 100000
theorem seatTie1 : Tryd.prog.laidByTextLater [("loop.example/g01412/impl.sumTable", Rows.laid_loop_example_g01412_impl_sumTable), ("loop.example/g01412/impl.errEvent", Rows.laid_loop_example_g01412_impl_errEvent)] [.data, .sentinel] true :=
  Program.laidByTextLater_by_one 33 8 17 (by kernel_rfl) (by kernel_rfl) (by kernel_rfl) (by kernel_rfl) (by kernel_rfl) (by kernel_rfl) (fun _ _ => by kernel_rfl)
theorem noOwnUnsafe : Tryd.pinned.checked.prog.headLifts.contains "ownunsafe" = false := by kernel_rfl
theorem tie : Tryd.prog.laidByTextLater [("loop.example/g01412/impl.errEvent", Rows.laid_loop_example_g01412_impl_errEvent)] [.sentinel] true :=
  Program.laidByTextLater.sub seatTie1 ["loop.example/g01412/impl.errEvent"] (by kernel_rfl) (by kernel_rfl)
theorem fnExactReadEvent_row_tie : Rows.fnExactReadEventRow.laidByTextAt .later Tryd.pinned [.sentinel] true :=
  OpenClaim.laidByTextAt_later rfl rfl tie noOwnUnsafe
theorem tie2 : Tryd.prog.laidByTextLater [("loop.example/g01412/impl.sumTable", Rows.laid_loop_example_g01412_impl_sumTable), ("loop.example/g01412/impl.errEvent", Rows.laid_loop_example_g01412_impl_errEvent)] [.data, .sentinel] true :=
  Program.laidByTextLater.sub seatTie1 ["loop.example/g01412/impl.sumTable", "loop.example/g01412/impl.errEvent"] (by kernel_rfl) (by kernel_rfl)
theorem fnExactEncode_row_tie : Rows.fnExactEncodeRow.laidByTextAt .later Tryd.pinned [.data, .sentinel] true :=
  OpenClaim.laidByTextAt_later rfl rfl tie2 noOwnUnsafe
theorem fnExactReadEventUpto_row_tie : Rows.fnExactReadEventUptoRow.laidByTextAt .later Tryd.pinned [.sentinel] true :=
  OpenClaim.laidByTextAt_later rfl rfl tie noOwnUnsafe
theorem fnExactEncodeUpto_row_tie : Rows.fnExactEncodeUptoRow.laidByTextAt .later Tryd.pinned [.data, .sentinel] true :=
  OpenClaim.laidByTextAt_later rfl rfl tie2 noOwnUnsafe
end Go.Proofs.YtcjpepdagnifiaaDoor
