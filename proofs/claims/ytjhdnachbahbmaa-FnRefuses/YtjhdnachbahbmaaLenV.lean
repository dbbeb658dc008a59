/- A slice's length, read off its value. -/
import Derived.Test.YtjhdnachbahbmaaRows
import Derived.WalkKit
namespace Go.Proofs.Ytjhdnachbahbmaa

def lenV : Value → Nat
  | .slice _ n _ => n
  | _ => 0

end Go.Proofs.Ytjhdnachbahbmaa
