/- A region that draws its order, whose own operations only read, and whose callees write nothing that was there: one walk, in the order of the text. -/
import Derived.Test.YtjhceoejblmihaaRows
import Derived.WalkKit
import Derived.ProofKit
import Derived.Below
import Derived.BigQuiet
namespace Go.Proofs.Ytjhceoejblmihaa
open Go.RowKit
set_option linter.unusedVariables false

/-- The worlds in which all that was there is as it was. -/
structure LaterW (w : World) where
  on : World
  bel : Below w.heap.size w on
theorem LaterW.some_ (w : World) : Nonempty (LaterW w) := ⟨⟨w, Below.refl _ _⟩⟩
theorem LaterW.step {w : World} (n : LaterW w) {X : World} (h : Below n.on.heap.size n.on X) : ∃ m : LaterW w, X = m.on := ⟨⟨X, n.bel.trans (h.mono n.bel.size)⟩, rfl⟩
theorem wp_region_later {P : Program} {id : Nat} {Q : Exit → Act → World → Prop} {a : Act} {w : World} {l : List Oper} (w0 : World) (hw : Below w0.heap.size w0 w) (hm : P.follows .mixedOrders = true) (hB : Region.lexB .any l.toArray = true)
    (h : wpQuiet P l.toArray (fun X => ∃ n : LaterW w0, X = n.on) (fun a' => ∀ w', (∃ n : LaterW w0, w' = n.on) → Q .normal a' w') l a) : (Code.region id l.toArray true).wp P Q a w :=
  wp_region_quiet (C := fun X => ∃ n : LaterW w0, X = n.on) hm hB ⟨⟨_, hw.drew⟩, rfl⟩ (by simpa using h)

end Go.Proofs.Ytjhceoejblmihaa
