/- What slices.Equal at numbers, texts and handles, impl.sameObj, and slices.EqualFunc over it answer. -/
import Derived.Test.YtcjpepdagnifiaaDoorSSameWalks
import Derived.Test.YtcjpepdagnifiaaDoorAnyOps
namespace Go.Proofs.YtcjpepdagnifiaaDoor
open Go.RowKit
set_option linter.unusedVariables false

theorem txt_beq_ne' {y x : List UInt8} (h : y ≠ x) : ((txt y).toList == (txt x).toList) = false := by
  rw [beq_eq_false_iff_ne]
  intro e
  unfold txt at e
  rw [ByteArray.toList_mk, ByteArray.toList_mk] at e
  exact h (by simpa using e)

/-- Two lists are alike from some place on. -/
theorem drop_eq_step {α : Type} (zs ys : List α) (j : Nat) (h1 : j < zs.length) (h2 : j < ys.length) : zs.drop j = ys.drop j ↔ (zs[j] = ys[j] ∧ zs.drop (j + 1) = ys.drop (j + 1)) := by
  rw [List.drop_eq_getElem_cons h1, List.drop_eq_getElem_cons h2, List.cons.injEq]

end Go.Proofs.YtcjpepdagnifiaaDoor
