/- What spec.l5Copy makes: the heap in memory of its own. -/
import Derived.Test.YtjhdnachbahbmaaAnyOps
namespace Go.Proofs.Ytjhdnachbahbmaa
open Go.RowKit
set_option linter.unusedVariables false
set_option maxRecDepth 100000

/-- What each operation of the copy's literal yields. -/
def RC (B P : Nat) (wa : Option Addr) (wn wc : Nat) (ia : Option Addr) (im ic : Nat) (sa : Option Addr) (sn sc : Nat) (NW NI NS : List Value) : Nat → World → Value → Prop
  | 0, X, v => ∃ g, v = .slice (some ⟨g, 0, none⟩) 0 0 ∧ B ≤ g ∧ X.heap[g]? = some (.cells #[] 63 (0, 0))
  | 1, X, v => v = .pointer (some ⟨P, 1, none⟩)
  | 2, X, v => v = .slice wa wn wc
  | 3, X, v => X.ownsRow B 63 2 v wn NW
  | 4, X, v => ∃ g, v = .slice (some ⟨g, 0, none⟩) 0 0 ∧ B ≤ g ∧ X.heap[g]? = some (.cells #[] 3 (0, 0))
  | 5, X, v => v = .pointer (some ⟨P, 2, none⟩)
  | 6, X, v => v = .slice ia im ic
  | 7, X, v => X.ownsRow B 3 1 v im NI
  | 8, X, v => ∃ g, v = .slice (some ⟨g, 0, none⟩) 0 0 ∧ B ≤ g ∧ X.heap[g]? = some (.cells #[] 9 (0, 0))
  | 9, X, v => v = .pointer (some ⟨P, 3, none⟩)
  | 10, X, v => v = .slice sa sn sc
  | 11, X, v => X.ownsRow B 9 1 v sn NS
  | 12, X, v => ∃ x1 c1 x2 c2 x3 c3, v = .agg #[.slice none 0 0, .slice x1 wn c1, .slice x2 im c2, .slice x3 sn c3] ∧ X.ownsRow B 63 2 (.slice x1 wn c1) wn NW ∧ X.ownsRow B 3 1 (.slice x2 im c2) im NI ∧ X.ownsRow B 9 1 (.slice x3 sn c3) sn NS
  | 13, X, v => ∃ g, v = .pointer (some ⟨g, 0, none⟩) ∧ B ≤ g ∧ Four X g (.slice none 0 0) (.slice none 0 0) (.slice none 0 0) (.slice none 0 0)
  | _, _, _ => True
theorem rc_mono {B P : Nat} {wa : Option Addr} {wn wc : Nat} {ia : Option Addr} {im ic : Nat} {sa : Option Addr} {sn sc : Nat} {NW NI NS : List Value} (i : Nat) (X Y : World) (v : Value) (h : RC B P wa wn wc ia im ic sa sn sc NW NI NS i X v) (hb : Below X.heap.size X Y) : RC B P wa wn wc ia im ic sa sn sc NW NI NS i Y v := by
  have blk : ∀ (g : Nat) (o : Obj), X.heap[g]? = some o → Y.heap[g]? = some o := fun g o hg => (hb.block g (Array.getElem?_eq_some_iff.1 hg).1).trans hg
  match i, h with
  | 0, ⟨g, h1, h2, h3⟩ => exact ⟨g, h1, h2, blk g _ h3⟩
  | 1, h => exact h
  | 2, h => exact h
  | 3, h => exact row_later h hb
  | 4, ⟨g, h1, h2, h3⟩ => exact ⟨g, h1, h2, blk g _ h3⟩
  | 5, h => exact h
  | 6, h => exact h
  | 7, h => exact row_later h hb
  | 8, ⟨g, h1, h2, h3⟩ => exact ⟨g, h1, h2, blk g _ h3⟩
  | 9, h => exact h
  | 10, h => exact h
  | 11, h => exact row_later h hb
  | 12, ⟨x1, c1, x2, c2, x3, c3, h1, h2, h3, h4⟩ => exact ⟨x1, c1, x2, c2, x3, c3, h1, row_later h2 hb, row_later h3 hb, row_later h4 hb⟩
  | 13, ⟨g, h1, h2, h3⟩ => exact ⟨g, h1, h2, h3.later hb⟩
  | n + 14, _ => exact trivial

end Go.Proofs.Ytjhdnachbahbmaa
