/- What slices.EqualFunc over impl.sameObj and impl.SameHeap answer. -/
import Derived.Test.YtebgngofnmcklabEq2Walks
namespace Go.Proofs.Ytebgngofnmcklab
open Go.RowKit
set_option linter.unusedVariables false

theorem bool_is (p : Prop) : ∃ b : Bool, (b = true ↔ p) := by
  by_cases h : p
  · exact ⟨true, by simp [h]⟩
  · exact ⟨false, by simp [h]⟩
theorem bool_isnt {p : Prop} {b : Bool} (h : b = true ↔ p) (hn : ¬ p) : b = false := by
  cases b with
  | false => rfl
  | true => exact absurd (h.1 rfl) hn

end Go.Proofs.Ytebgngofnmcklab
