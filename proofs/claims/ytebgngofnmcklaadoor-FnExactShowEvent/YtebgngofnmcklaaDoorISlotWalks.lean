/- What impl.liveIn and impl.SlotOf answer. -/
import Derived.Test.YtebgngofnmcklaaDoorIIdWalks
namespace Go.Proofs.YtebgngofnmcklaaDoor
open Go.RowKit
set_option linter.unusedVariables false

/-- Nothing live is in the slot, or there is none. -/
def NoLive (H : HeapD) (slot : Int) : Prop := slot < 0 ∨ 8 ≤ slot ∨ ∀ o, H.objs[slot.toNat]? = some o → o.live = false

end Go.Proofs.YtebgngofnmcklaaDoor
