/- '!=' between two handles. -/
import Derived.Test.YtjihbmkhifnblabHeapBase
import Derived.Laws.StructEq
namespace Go.Proofs.Ytjihbmkhifnblab
open Go.RowKit
set_option linter.unusedVariables false

theorem neqWeak (d e : WeakD) (w : World) : (binOp .neq 43 (.agg #[.bool d.used, .int .i64 d.target]) (.agg #[.bool e.used, .int .i64 e.target])).run Try.prog w = .ok (.bool (!(d.used == e.used && d.target == e.target))) w := by
  obtain ⟨du, dt⟩ := d
  obtain ⟨eu, et⟩ := e
  have u1 := Try.underlying4
  have a1 := Try.isAgg4
  have z1 := Try.sizeOf4
  have u3 := Try.underlying3
  have a3 := Try.isAgg3
  have z3 := Try.sizeOf3
  have hS : Try.prog.underlying 43 = some (.struct (Try.prog.fieldsOf 43)) := by kernel_rfl
  have hp : Try.prog.stoodInHeld 43 = false := by kernel_rfl
  rw [run_neq_struct, show (10000 : Nat) = 9999 + 1 from rfl, run_equalIn_agg w 9999 43 _ _ hS hp]
  simp only [Program.fieldsOf, Try.underlying43]
  go_simp
  by_cases h1 : du = eu <;> by_cases h2 : dt = et <;> simp [h1, h2]
theorem neqWeak_no (d : WeakD) (w : World) : (binOp .neq 43 (.agg #[.bool d.used, .int .i64 d.target]) (.agg #[.bool d.used, .int .i64 d.target])).run Try.prog w = .ok (.bool false) w := by
  rw [neqWeak]; simp
theorem neqWeak_yes (d e : WeakD) (h : d ≠ e) (w : World) : (binOp .neq 43 (.agg #[.bool d.used, .int .i64 d.target]) (.agg #[.bool e.used, .int .i64 e.target])).run Try.prog w = .ok (.bool true) w := by
  rw [neqWeak]
  have e1 : (d.used == e.used && d.target == e.target) = false := by
    rw [Bool.and_eq_false_iff]
    obtain ⟨du, dt⟩ := d
    obtain ⟨eu, et⟩ := e
    by_cases h1 : du = eu
    · right
      simp only [beq_eq_false_iff_ne]
      intro h2
      exact h (by rw [h1, h2])
    · left; simpa using h1
  rw [e1]; rfl
theorem guardWeak (op : BinOp) (a b : Operand) (d e : WeakD) (w : World) : (eqGuard op 43 a b (.agg #[.bool d.used, .int .i64 d.target]) (.agg #[.bool e.used, .int .i64 e.target])).run Try.prog w = .ok () w :=
  run_eqGuard_agg w op 43 a b _ _ (by kernel_rfl)

end Go.Proofs.Ytjihbmkhifnblab
