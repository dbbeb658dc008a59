/- When a heap is right, as the specification has it. -/
import Derived.Test.YtjhdnachbahbmaaHeapBase
import Derived.Test.YtjhdnachbahbmaaSEdgesWalks
namespace Go.Proofs.Ytjhdnachbahbmaa

def deadO (o : ObjD) : Prop := o.site = 0 ∧ o.holds = 0 ∧ o.roots = 0 ∧ o.count = 0 ∧ o.purple = false ∧ ∀ k (h : k < o.field.length), o.field[k] = -1
def ledO (H : HeapD) (o : ObjD) : Prop := ∀ k (h : k < o.field.length), o.field[k] = -1 ∨ 0 ≤ slotZ H o.field[k]
def liveO (H : HeapD) (i : Nat) (o : ObjD) : Prop :=
  (1 ≤ o.gen ∧ (0 ≤ o.site ∧ o.site ≤ (H.sites.length : Int) - 1) ∧ (0 ≤ o.holds ∧ o.holds ≤ 20) ∧ (0 ≤ o.roots ∧ o.roots ≤ 20)) ∧ ledO H o ∧
  (o.count = o.holds + o.roots + inEdges H (i : Int) ∧ 1 ≤ o.count ∧ o.purple = decide (idZ (i : Int) o.gen ∈ H.buffer))
def okO (H : HeapD) (i : Nat) (o : ObjD) : Prop := ((0 ≤ o.gen ∧ o.gen ≤ 999) ∧ o.field.length = 3) ∧ (o.live = false → deadO o) ∧ (o.live = true → liveO H i o)
def okW (d : WeakD) : Prop := (d.used = false → d.target = 0) ∧ (d.used = true → 8 ≤ d.target ∧ d.target ≤ 7999)
def okB (H : HeapD) (i : Nat) (x : Int) : Prop := 0 ≤ slotZ H x ∧ x ∉ H.buffer.take i
def okN (H : HeapD) (i : Nat) (x : List UInt8) : Prop := (1 ≤ x.length ∧ x.length ≤ 8) ∧ ∀ k (h : k < H.sites.length), k < i → H.sites[k] ≠ x
/-- A heap is right. -/
structure OkH (H : HeapD) : Prop where
  size : H.objs.length = 8 ∧ H.weaks.length = 8 ∧ H.sites.length ≤ 6
  objs : ∀ i (h : i < H.objs.length), okO H i H.objs[i]
  weaks : ∀ i (h : i < H.weaks.length), okW H.weaks[i]
  buffer : ∀ i (h : i < H.buffer.length), okB H i H.buffer[i]
  sites : ∀ i (h : i < H.sites.length), okN H i H.sites[i]

/-- A Bool that says whether something holds. -/
theorem bool_of (p : Prop) : ∃ b : Bool, (b = true ↔ p) := by
  by_cases h : p
  · exact ⟨true, by simp [h]⟩
  · exact ⟨false, by simp [h]⟩
theorem bool_no {p : Prop} {b : Bool} (h : b = true ↔ p) (hn : ¬ p) : b = false := by
  cases b with
  | false => rfl
  | true => exact absurd (h.1 rfl) hn

theorem inEdges_bd (H : HeapD) (hs : SmallH H) (slot : Int) : 0 ≤ inEdges H slot ∧ inEdges H slot ≤ 1099511627776 := by
  unfold inEdges
  split
  · split
    · omega
    · split
      · have h := inE_le (idZ slot (by assumption : ObjD).gen) H.objs 1048576 hs.fields
        have h2 := hs.objs
        have h3 : H.objs.length * 1048576 ≤ 1048576 * 1048576 := Nat.mul_le_mul_right _ h2
        omega
      · omega
  · omega

end Go.Proofs.Ytjhdnachbahbmaa
