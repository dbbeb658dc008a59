/- What impl.liveIn and impl.SlotOf answer. -/
import Derived.Test.YtcjpepdagnifiaaDoorIIdWalks
namespace Go.Proofs.YtcjpepdagnifiaaDoor
open Go.RowKit
set_option linter.unusedVariables false

/-- Nothing live is in the slot, or there is none. -/
def NoLive (H : HeapD) (slot : Int) : Prop := slot < 0 ∨ 8 ≤ slot ∨ ∀ o, H.objs[slot.toNat]? = some o → o.live = false

end Go.Proofs.YtcjpepdagnifiaaDoor
