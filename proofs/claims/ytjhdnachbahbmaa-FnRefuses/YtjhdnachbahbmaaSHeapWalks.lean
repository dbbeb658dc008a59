/- What spec.IdOf, spec.SlotOf and spec.l5Has answer. -/
import Derived.Test.YtjhdnachbahbmaaHeapBase
import Derived.Test.YtjhdnachbahbmaaRfWalks
namespace Go.Proofs.Ytjhdnachbahbmaa
open Go.RowKit
set_option linter.unusedVariables false

def idZ (slot gen : Int) : Int := if 0 ≤ slot ∧ slot ≤ 7 ∧ 1 ≤ gen ∧ gen ≤ 999 then slot + 8 * gen else -1

/-- Where a live object of an id stands. -/
def slotZ (H : HeapD) (id : Int) : Int :=
  if id < 8 ∨ H.objs.length ≠ 8 then -1
  else match H.objs[(id % 8).toNat]? with
    | none => -1
    | some o => if o.live = true ∧ o.gen = id / 8 then id % 8 else -1

theorem ret_bb {a b : Bool} (h : a = b) : Ending.returned (.bool a) = .returned (.bool b) := by rw [h]

end Go.Proofs.Ytjhdnachbahbmaa
