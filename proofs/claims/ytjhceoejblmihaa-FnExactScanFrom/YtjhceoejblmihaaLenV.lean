/- A slice's length, read off its value. -/
import Derived.Test.YtjhceoejblmihaaRows
import Derived.WalkKit
namespace Go.Proofs.Ytjhceoejblmihaa

def lenV : Value → Nat
  | .slice _ n _ => n
  | _ => 0

end Go.Proofs.Ytjhceoejblmihaa
