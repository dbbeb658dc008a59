/- What spec.FreeSlot and impl.FreeSlot answer. -/
import Derived.Test.YtebgngofnmcklaaISlotWalks
namespace Go.Proofs.Ytebgngofnmcklaa
open Go.RowKit
set_option linter.unusedVariables false
set_option maxRecDepth 100000

def freeL : List ObjD → Int → Int
  | [], _ => -1
  | o :: r, i => if o.live = false ∧ o.gen < 999 then i else freeL r (i + 1)
/-- The lowest slot that is not live and of a generation below the last. -/
def freeZ (H : HeapD) : Int := freeL (H.objs.take 8) 0
theorem freeL_at (os : List ObjD) (j : Nat) (h : j < os.length) : freeL (os.drop j) (j : Int) = if os[j].live = false ∧ os[j].gen < 999 then (j : Int) else freeL (os.drop (j + 1)) ((j + 1 : Nat) : Int) := by
  rw [List.drop_eq_getElem_cons h]; simp [freeL]

/-- What one round over the slots has: the object there, or none. -/
theorem free_step (H : HeapD) (j : Nat) (h : j < H.objs.length) (h8 : j < 8) (o : ObjD) (ho : H.objs[j] = o) :
    freeL ((H.objs.take 8).drop j) (j : Int) = if o.live = false ∧ o.gen < 999 then (j : Int) else freeL ((H.objs.take 8).drop (j + 1)) ((j + 1 : Nat) : Int) := by
  rw [freeL_at (H.objs.take 8) j (by rw [List.length_take]; omega), List.getElem_take, ho]
theorem free_end (H : HeapD) (j : Nat) (h : H.objs.length ≤ j ∨ 8 ≤ j) (i : Int) : freeL ((H.objs.take 8).drop j) i = -1 := by
  rw [List.drop_eq_nil_of_le (by rw [List.length_take]; omega)]; rfl

theorem cells_idxs (g off n : Nat) : ∃ x, cellsV g off n = .agg x ∧ ∀ s : Nat, s < 8 → ∀ X : World, (Instr.index 56 (.agg x) (.int .i64 (s : Int))).run Try.prog X = .ok (.pointer (cellA g off n s)) X :=
  ⟨_, rfl, fun s hs X => by obtain ⟨x, hx, h⟩ := cells_idx g off n s hs; unfold cellsV at hx; injection hx with hx; subst hx; exact h X⟩

end Go.Proofs.Ytebgngofnmcklaa
