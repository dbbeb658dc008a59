/- Trials; what spec.Whites and spec.l7Kids make. -/
import Derived.Test.YtjhdnachbahbmaaSHeapWalks
import Derived.Test.YtjhdnachbahbmaaHeapMark
import Derived.Test.YtjhdnachbahbmaaAnyOps
namespace Go.Proofs.Ytjhdnachbahbmaa
open Go.RowKit
set_option linter.unusedVariables false
set_option maxRecDepth 100000

/-- A trial: counts and colors. -/
structure TrialD where
  counts : List Int
  colors : List Int
/-- A trial's value, as one who only reads has it. -/
def RdT (w : World) (v : Value) (T : TrialD) : Prop := ∃ a c b d, v = .agg #[.slice a T.counts.length c, .slice b T.colors.length d] ∧ RdI w a T.counts ∧ RdI w b T.colors
theorem rdT_later {w w' : World} {v : Value} {T : TrialD} (h : RdT w v T) (hb : Below w.heap.size w w') : RdT w' v T := by
  obtain ⟨a, c, b, d, h1, h2, h3⟩ := h
  exact ⟨a, c, b, d, h1, rdI_later h2 hb, rdI_later h3 hb⟩
structure SmallT (T : TrialD) : Prop where
  counts : T.counts.length ≤ 1048576
  colors : T.colors.length ≤ 1048576

def whiteL : List Int → Int → List Int
  | [], _ => []
  | z :: r, i => if z = 2 then i :: whiteL r (i + 1) else whiteL r (i + 1)
/-- The slots that are white. -/
def whites (T : TrialD) : List Int := whiteL T.colors 0
theorem white_step (zs : List Int) (j : Nat) (h : j < zs.length) : whiteL (zs.drop j) (j : Int) = if zs[j] = 2 then (j : Int) :: whiteL (zs.drop (j + 1)) ((j + 1 : Nat) : Int) else whiteL (zs.drop (j + 1)) ((j + 1 : Nat) : Int) := by
  rw [List.drop_eq_getElem_cons h]; simp [whiteL]
theorem white_end (zs : List Int) (j : Nat) (h : zs.length ≤ j) (i : Int) : whiteL (zs.drop j) i = [] := by
  rw [List.drop_eq_nil_of_le h]; rfl

/-- The slots to which ids lead, one for each that does. -/
def kidL (H : HeapD) : List Int → List Int
  | [] => []
  | z :: r => if 0 ≤ slotZ H z then slotZ H z :: kidL H r else kidL H r
theorem kid_step (H : HeapD) (zs : List Int) (j : Nat) (h : j < zs.length) : kidL H (zs.drop j) = if 0 ≤ slotZ H zs[j] then slotZ H zs[j] :: kidL H (zs.drop (j + 1)) else kidL H (zs.drop (j + 1)) := by
  rw [List.drop_eq_getElem_cons h]; simp [kidL]
theorem kid_end (H : HeapD) (zs : List Int) (j : Nat) (h : zs.length ≤ j) : kidL H (zs.drop j) = [] := by
  rw [List.drop_eq_nil_of_le h]; rfl
theorem kidL_le (H : HeapD) (zs : List Int) : (kidL H zs).length ≤ zs.length := by
  induction zs with
  | nil => simp [kidL]
  | cons z r ih => unfold kidL; split <;> simp <;> omega

end Go.Proofs.Ytjhdnachbahbmaa
