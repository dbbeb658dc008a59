/- What spec.InEdges answers. -/
import Derived.Test.YtjhdnachbahbmaaSHeapWalks
namespace Go.Proofs.Ytjhdnachbahbmaa
open Go.RowKit
set_option linter.unusedVariables false

/-- How many fields of an object, of objects, lead to an id. -/
def inO (id : Int) (o : ObjD) : Nat := if o.live = true then o.field.count id else 0
def inE (id : Int) (os : List ObjD) : Nat := (os.map (inO id)).sum
theorem inE_succ (id : Int) (os : List ObjD) (j : Nat) (h : j < os.length) : inE id (os.take (j + 1)) = inE id (os.take j) + inO id os[j] := by
  unfold inE
  rw [List.take_succ_eq_append_getElem h, List.map_append, List.sum_append]
  simp
theorem inE_le (id : Int) (os : List ObjD) (m : Nat) (h : ∀ z ∈ os, z.field.length ≤ m) : inE id os ≤ os.length * m := by
  unfold inE
  induction os with
  | nil => simp
  | cons o r ih =>
    have h1 := h o (by simp)
    have h2 := ih (fun z hz => h z (by simp [hz]))
    have h3 : inO id o ≤ m := by
      unfold inO; split
      · exact Nat.le_trans List.count_le_length h1
      · omega
    simp only [List.map_cons, List.sum_cons, List.length_cons, Nat.add_mul, Nat.one_mul]
    omega
theorem count_succ (id : Int) (zs : List Int) (k : Nat) (h : k < zs.length) : (zs.take (k + 1)).count id = (zs.take k).count id + if zs[k] = id then 1 else 0 := by
  rw [List.take_succ_eq_append_getElem h, List.count_append]
  generalize zs[k] = z
  by_cases e : z = id
  · subst e; simp
  · have e2 : ([z] : List Int).count id = 0 := List.count_eq_zero.2 (by simp; exact fun h => e h.symm)
    rw [e2, if_neg e]
def inEdges (H : HeapD) (slot : Int) : Int :=
  if 0 ≤ slot then match H.objs[slot.toNat]? with
    | none => 0
    | some o => if o.live = true then (inE (idZ slot o.gen) H.objs : Int) else 0
  else 0

end Go.Proofs.Ytjhdnachbahbmaa
