/- What spec.l5Ints and spec.SameHeap answer. -/
import Derived.Test.YtjhdnachbahbmaaHeapBase
namespace Go.Proofs.Ytjhdnachbahbmaa
open Go.RowKit
set_option linter.unusedVariables false

theorem ret_q {a b : Bool} (h : a = b) : Ending.returned (.bool a) = .returned (.bool b) := by rw [h]

theorem take_next {α : Type} (zs ys : List α) (j : Nat) (h1 : j < zs.length) (h2 : j < ys.length) (h : zs.take j = ys.take j) : zs.take (j + 1) = ys.take (j + 1) ↔ zs[j] = ys[j] := by
  rw [List.take_succ_eq_append_getElem h1, List.take_succ_eq_append_getElem h2, h]
  constructor
  · intro e; exact (List.cons.inj (List.append_cancel_left e)).1
  · intro e; rw [e]
theorem take_of_eq {α : Type} {zs ys : List α} (h : zs = ys) (j : Nat) : zs.take j = ys.take j := by rw [h]
theorem eq_of_takes {α : Type} {zs ys : List α} (hl : zs.length = ys.length) (h : zs.take zs.length = ys.take zs.length) : zs = ys := by
  rw [List.take_length, hl, List.take_length] at h
  exact h

end Go.Proofs.Ytjhdnachbahbmaa
