/- What impl.liveIn and impl.SlotOf answer. -/
import Derived.Test.YtjihbmkhifnblaaIIdWalks
namespace Go.Proofs.Ytjihbmkhifnblaa
open Go.RowKit
set_option linter.unusedVariables false

theorem index8_0 (p0 p1 p2 p3 p4 p5 p6 p7 : Option Addr) (w : World) : (Instr.index 83 (.agg #[.pointer p0, .pointer p1, .pointer p2, .pointer p3, .pointer p4, .pointer p5, .pointer p6, .pointer p7]) (.int .i64 0)).run Try.prog w = .ok (.pointer p0) w := by kernel_rfl
theorem index8_1 (p0 p1 p2 p3 p4 p5 p6 p7 : Option Addr) (w : World) : (Instr.index 83 (.agg #[.pointer p0, .pointer p1, .pointer p2, .pointer p3, .pointer p4, .pointer p5, .pointer p6, .pointer p7]) (.int .i64 1)).run Try.prog w = .ok (.pointer p1) w := by kernel_rfl
theorem index8_2 (p0 p1 p2 p3 p4 p5 p6 p7 : Option Addr) (w : World) : (Instr.index 83 (.agg #[.pointer p0, .pointer p1, .pointer p2, .pointer p3, .pointer p4, .pointer p5, .pointer p6, .pointer p7]) (.int .i64 2)).run Try.prog w = .ok (.pointer p2) w := by kernel_rfl
theorem index8_3 (p0 p1 p2 p3 p4 p5 p6 p7 : Option Addr) (w : World) : (Instr.index 83 (.agg #[.pointer p0, .pointer p1, .pointer p2, .pointer p3, .pointer p4, .pointer p5, .pointer p6, .pointer p7]) (.int .i64 3)).run Try.prog w = .ok (.pointer p3) w := by kernel_rfl
theorem index8_4 (p0 p1 p2 p3 p4 p5 p6 p7 : Option Addr) (w : World) : (Instr.index 83 (.agg #[.pointer p0, .pointer p1, .pointer p2, .pointer p3, .pointer p4, .pointer p5, .pointer p6, .pointer p7]) (.int .i64 4)).run Try.prog w = .ok (.pointer p4) w := by kernel_rfl
theorem index8_5 (p0 p1 p2 p3 p4 p5 p6 p7 : Option Addr) (w : World) : (Instr.index 83 (.agg #[.pointer p0, .pointer p1, .pointer p2, .pointer p3, .pointer p4, .pointer p5, .pointer p6, .pointer p7]) (.int .i64 5)).run Try.prog w = .ok (.pointer p5) w := by kernel_rfl
theorem index8_6 (p0 p1 p2 p3 p4 p5 p6 p7 : Option Addr) (w : World) : (Instr.index 83 (.agg #[.pointer p0, .pointer p1, .pointer p2, .pointer p3, .pointer p4, .pointer p5, .pointer p6, .pointer p7]) (.int .i64 6)).run Try.prog w = .ok (.pointer p6) w := by kernel_rfl
theorem index8_7 (p0 p1 p2 p3 p4 p5 p6 p7 : Option Addr) (w : World) : (Instr.index 83 (.agg #[.pointer p0, .pointer p1, .pointer p2, .pointer p3, .pointer p4, .pointer p5, .pointer p6, .pointer p7]) (.int .i64 7)).run Try.prog w = .ok (.pointer p7) w := by kernel_rfl
theorem cells_idx (g off n s : Nat) (hs : s < 8) : ∃ x, cellsV g off n = .agg x ∧ ∀ X : World, (Instr.index 83 (.agg x) (.int .i64 (s : Int))).run Try.prog X = .ok (.pointer (cellA g off n s)) X := by
  refine ⟨_, rfl, fun X => ?_⟩
  match s, hs with
  | 0, _ => exact index8_0 _ _ _ _ _ _ _ _ X
  | 1, _ => exact index8_1 _ _ _ _ _ _ _ _ X
  | 2, _ => exact index8_2 _ _ _ _ _ _ _ _ X
  | 3, _ => exact index8_3 _ _ _ _ _ _ _ _ X
  | 4, _ => exact index8_4 _ _ _ _ _ _ _ _ X
  | 5, _ => exact index8_5 _ _ _ _ _ _ _ _ X
  | 6, _ => exact index8_6 _ _ _ _ _ _ _ _ X
  | 7, _ => exact index8_7 _ _ _ _ _ _ _ _ X

/-- Nothing live is in the slot, or there is none. -/
def NoLive (H : HeapD) (slot : Int) : Prop := slot < 0 ∨ 8 ≤ slot ∨ ∀ o, H.objs[slot.toNat]? = some o → o.live = false

end Go.Proofs.Ytjihbmkhifnblaa
