/- What spec.l1FromHex and spec.Unhex answer, at every text of at most 2^20 bytes. -/
import Derived.Test.YtdkdjelbgegmeabDoorHexWalks
import Derived.Test.YtdkdjelbgegmeabDoorUnhexMath
namespace Go.Proofs.YtdkdjelbgegmeabDoor
open Go.RowKit
set_option linter.unusedVariables false

theorem ret_sb {a c : ByteArray} {b d : Bool} (h1 : a = c) (h2 : b = d) : Ending.returned (.tuple #[.string a, .bool b]) = .returned (.tuple #[.string c, .bool d]) := by rw [h1, h2]

theorem unhex_of (l : List UInt8) (j : Nat) (P : List UInt8) (x : Option (List UInt8)) (h : unhexB l = uleft l j P) (hx : uleft l j P = x) : unhexB l = x := h.trans hx

end Go.Proofs.YtdkdjelbgegmeabDoor
