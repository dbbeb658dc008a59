/- What the laws' own helpers on rows of numbers do: szIntS, toIntS. -/
import Derived.Test.YtebgngofnmcklabOwnI
namespace Go.Proofs.Ytebgngofnmcklab
open Go.RowKit
set_option linter.unusedVariables false

/-- A row of numbers as one who only reads has it. -/
def RdI (w : World) (a : Option Addr) (zs : List Int) : Prop := ∀ j (h : j < zs.length), ∃ g off, a = some ⟨g, off, none⟩ ∧ g < w.heap.size ∧ w.cell? ⟨g, off + j, none⟩ = some (.int .i64 zs[j])
theorem rdI_own {w : World} {B : Nat} {v : Value} {zs : List Int} (h : ownI w B v zs) : ∃ a cap, v = .slice a zs.length cap ∧ Hid (RdI w a zs) := by
  rcases ownI_form h with ⟨rfl, rfl⟩ | ⟨g, cap, rfl, _, hg, _, _, HC⟩
  · exact ⟨none, 0, rfl, fun j hj => by simp at hj⟩
  · exact ⟨_, cap, rfl, fun j hj => ⟨g, 0, rfl, hg, by rw [Nat.zero_add]; exact (HC.out j hj).1⟩⟩
theorem rdI_later {w w' : World} {a : Option Addr} {zs : List Int} (h : RdI w a zs) (hb : Below w.heap.size w w') : RdI w' a zs := by
  intro j hj
  obtain ⟨g, off, ha, hg, hc⟩ := h j hj
  exact ⟨g, off, ha, Nat.lt_of_lt_of_le hg hb.size, (hb.cell (p := ⟨g, off + j, none⟩) hg).trans hc⟩

/-- The first j numbers of a row laid over a new one. -/
def laidI (zs : List Int) (j : Nat) : List Int := zs.take j ++ List.replicate (zs.length - j) 0
theorem laidI_length (zs : List Int) (j : Nat) (h : j ≤ zs.length) : (laidI zs j).length = zs.length := by
  unfold laidI; rw [List.length_append, List.length_take, List.length_replicate]; omega
theorem laidI_zero (zs : List Int) : laidI zs 0 = List.replicate zs.length 0 := by unfold laidI; simp
theorem laidI_all (zs : List Int) : laidI zs zs.length = zs := by unfold laidI; simp
theorem laidI_succ (zs : List Int) (j : Nat) (h : j < zs.length) : (laidI zs j).set j zs[j] = laidI zs (j + 1) := by
  unfold laidI
  have hl : (zs.take j).length = j := by rw [List.length_take]; omega
  rw [List.set_append_right _ _ (by omega), hl, Nat.sub_self]
  obtain ⟨m, hm⟩ : ∃ m, zs.length - j = m + 1 := ⟨zs.length - j - 1, by omega⟩
  rw [hm, List.replicate_succ, List.set_cons_zero, show zs.length - (j + 1) = m from by omega, List.take_succ_eq_append_getElem h, List.append_assoc]
  rfl

end Go.Proofs.Ytebgngofnmcklab
