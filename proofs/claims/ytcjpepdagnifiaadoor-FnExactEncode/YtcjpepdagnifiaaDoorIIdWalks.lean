/- What impl.IdOf and impl.cellsOf answer. -/
import Derived.Test.YtcjpepdagnifiaaDoorSHeapWalks
namespace Go.Proofs.YtcjpepdagnifiaaDoor
open Go.RowKit
set_option linter.unusedVariables false

/-- The value of 'cells': what stands in slot k of n, for each k below 8. -/
def cellA (g off n k : Nat) : Option Addr := if k < n then some ⟨g, off + k * 8, none⟩ else none
abbrev cellP (g off n k : Nat) : Value := .pointer (cellA g off n k)
def cellsV (g off n : Nat) : Value := .agg #[cellP g off n 0, cellP g off n 1, cellP g off n 2, cellP g off n 3, cellP g off n 4, cellP g off n 5, cellP g off n 6, cellP g off n 7]

end Go.Proofs.YtcjpepdagnifiaaDoor
