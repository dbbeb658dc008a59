/- What loses keeps a heap right: counts are what holds, roots, fields and what waits make. Plain facts, no program. -/
import Derived.Test.YtjhdnachbahbmaaLoseMath
import Derived.Test.YtjhdnachbahbmaaHeapMath
namespace Go.Proofs.Ytjhdnachbahbmaa
open Go.RowKit
set_option linter.unusedVariables false
set_option maxRecDepth 100000

/-- A sum over a list of which one place is turned. -/
theorem sum_set (f : ObjD → Nat) : ∀ (os : List ObjD) (k : Nat) (hk : k < os.length) (o : ObjD), ((os.set k o).map f).sum + f os[k] = (os.map f).sum + f o := by
  intro os
  induction os with
  | nil => intro k hk; simp at hk
  | cons a r ih =>
    intro k hk o
    cases k with
    | zero => simp; omega
    | succ k =>
      have := ih k (by simpa using hk) o
      simp at this ⊢
      omega
theorem sum_le (f : ObjD → Nat) : ∀ (os : List ObjD) (k : Nat) (hk : k < os.length), f os[k] ≤ (os.map f).sum := by
  intro os
  induction os with
  | nil => intro k hk; simp at hk
  | cons a r ih =>
    intro k hk
    cases k with
    | zero => simp
    | succ k =>
      have := ih k (by simpa using hk)
      simp at this ⊢
      omega
def liveO1 (o : ObjD) : Nat := if o.live = true then 1 else 0
def liveN (os : List ObjD) : Nat := (os.map liveO1).sum

/-- Where an id leads. -/
theorem slot_of {H : HeapD} (h8 : H.objs.length = 8) {k : Nat} (hk : k < H.objs.length) (hl : H.objs[k].live = true) (hg : 1 ≤ H.objs[k].gen ∧ H.objs[k].gen ≤ 999) : slotZ H (idZ (k : Int) H.objs[k].gen) = (k : Int) := by
  have e : idZ (k : Int) H.objs[k].gen = (k : Int) + 8 * H.objs[k].gen := by unfold idZ; rw [if_pos (by omega)]
  rw [e]; unfold slotZ
  have hm : ((k : Int) + 8 * H.objs[k].gen) % 8 = (k : Int) := by omega
  have hd : ((k : Int) + 8 * H.objs[k].gen) / 8 = H.objs[k].gen := by omega
  rw [if_neg (by omega), hm, hd, show ((k : Int)).toNat = k from by omega, List.getElem?_eq_getElem hk]
  simp [hl]
theorem slot_inv {H : HeapD} {id : Int} (h : 0 ≤ slotZ H id) : ∃ k, ∃ hk : k < H.objs.length, slotZ H id = (k : Int) ∧ k < 8 ∧ H.objs[k].live = true ∧ H.objs.length = 8 ∧ id = (k : Int) + 8 * H.objs[k].gen ∧ 8 ≤ id := by
  unfold slotZ at h ⊢
  split at h
  · omega
  · rename_i h1
    rw [if_neg h1]
    have hk : (id % 8).toNat < H.objs.length := by omega
    rw [List.getElem?_eq_getElem hk] at h ⊢
    simp only at h ⊢
    by_cases hc : H.objs[(id % 8).toNat].live = true ∧ H.objs[(id % 8).toNat].gen = id / 8
    · rw [if_pos hc] at h ⊢
      exact ⟨(id % 8).toNat, hk, by omega, by omega, hc.1, by omega, by rw [hc.2]; omega, by omega⟩
    · rw [if_neg hc] at h; omega
/-- An object that is live no more takes its id with it. -/
theorem slot_dead {H : HeapD} (k : Nat) (hk : k < H.objs.length) (o : ObjD) (hd : o.live = false) (id : Int) (hn : slotZ H id ≠ (k : Int)) : slotZ (setO H k o) id = slotZ H id := by
  unfold slotZ at hn ⊢
  have hl : (setO H k o).objs.length = H.objs.length := by simp [setO]
  rw [hl]
  by_cases hc : (id < 8 ∨ H.objs.length ≠ 8)
  · first | rw [if_pos hc, if_pos hc] | simp [hc]
  · rw [if_neg hc] at hn
    rw [if_neg hc, if_neg hc]
    have e : (setO H k o).objs[(id % 8).toNat]? = if k = (id % 8).toNat then some o else H.objs[(id % 8).toNat]? := by
      show (H.objs.set k o)[(id % 8).toNat]? = _
      rw [List.getElem?_set]
      split
      · first | rfl | (rename_i e; rw [if_pos (by rw [← e]; exact hk)])
      · rfl
    rw [e]
    by_cases e4 : k = (id % 8).toNat
    · rw [if_pos e4]
      rw [← e4, List.getElem?_eq_getElem hk] at hn ⊢
      simp only [hd] at hn ⊢
      split at hn
      · omega
      · rename_i h2; rw [if_neg h2]; simp
    · rw [if_neg e4]

/-- An object's part of a right heap in which some ids still wait to be lost. -/
def liveJ (H : HeapD) (todo : List Int) (i : Nat) (o : ObjD) : Prop :=
  (1 ≤ o.gen ∧ (0 ≤ o.site ∧ o.site ≤ (H.sites.length : Int) - 1) ∧ (0 ≤ o.holds ∧ o.holds ≤ 20) ∧ (0 ≤ o.roots ∧ o.roots ≤ 20)) ∧ ledO H o ∧
  (o.count = o.holds + o.roots + (inE (idZ (i : Int) o.gen) H.objs : Int) + (todo.count (idZ (i : Int) o.gen) : Int) ∧ 1 ≤ o.count ∧ (o.purple = true ↔ idZ (i : Int) o.gen ∈ H.buffer))
def okJ (H : HeapD) (todo : List Int) (i : Nat) (o : ObjD) : Prop := ((0 ≤ o.gen ∧ o.gen ≤ 999) ∧ o.field.length = 3) ∧ (o.live = false → deadO o) ∧ (o.live = true → liveJ H todo i o)
structure JH (H : HeapD) (todo : List Int) : Prop where
  size : H.objs.length = 8 ∧ H.weaks.length = 8 ∧ H.sites.length ≤ 6
  objs : ∀ i (h : i < H.objs.length), okJ H todo i H.objs[i]
  weaks : ∀ i (h : i < H.weaks.length), okW H.weaks[i]
  bufS : ∀ x ∈ H.buffer, 0 ≤ slotZ H x
  bufN : H.buffer.Nodup
  sites : ∀ i (h : i < H.sites.length), okN H i H.sites[i]

theorem nodup_take (l : List Int) : (∀ i (h : i < l.length), l[i] ∉ l.take i) ↔ l.Nodup := by
  unfold List.Nodup
  rw [List.pairwise_iff_getElem]
  constructor
  · intro h i j hi hj hij e
    exact h j hj (List.mem_take_iff_getElem.2 ⟨i, by omega, e⟩)
  · intro h i hi hm
    obtain ⟨j, hj, e⟩ := List.mem_take_iff_getElem.1 hm
    exact h j i (by omega) hi (by omega) e
theorem inEdges_live {H : HeapD} {i : Nat} (h : i < H.objs.length) (hl : H.objs[i].live = true) : inEdges H (i : Int) = (inE (idZ (i : Int) H.objs[i].gen) H.objs : Int) := by
  unfold inEdges
  rw [if_pos (by omega), show ((i : Int)).toNat = i from by omega, List.getElem?_eq_getElem h]
  simp only [hl, if_true]
theorem jh_of_ok {H : HeapD} (h : OkH H) : JH H [] := by
  refine ⟨h.size, fun i hi => ?_, h.weaks, fun x hx => ?_, (nodup_take _).1 (fun i hi => (h.buffer i hi).2), h.sites⟩
  · obtain ⟨h1, h2, h3⟩ := h.objs i hi
    refine ⟨h1, h2, fun hl => ?_⟩
    obtain ⟨l1, l2, l3, l4, l5⟩ := h3 hl
    refine ⟨l1, l2, ?_, l4, ?_⟩
    · rw [inEdges_live hi hl] at l3; simpa using l3
    · rw [l5]; simp
  · obtain ⟨i, hi, rfl⟩ := List.getElem_of_mem hx
    exact (h.buffer i hi).1
theorem ok_of_jh {H : HeapD} (h : JH H []) : OkH H := by
  refine ⟨h.size, fun i hi => ?_, h.weaks, fun i hi => ⟨h.bufS _ (List.getElem_mem hi), (nodup_take _).2 h.bufN i hi⟩, h.sites⟩
  obtain ⟨h1, h2, h3⟩ := h.objs i hi
  refine ⟨h1, h2, fun hl => ?_⟩
  obtain ⟨l1, l2, l3, l4, l5⟩ := h3 hl
  refine ⟨l1, l2, ?_, l4, ?_⟩
  · rw [inEdges_live hi hl]; simpa using l3
  · cases hp : H.objs[i].purple with
    | true => exact (decide_eq_true (l5.1 hp)).symm
    | false => exact (decide_eq_false (fun hm => by rw [l5.2 hm] at hp; cases hp)).symm

end Go.Proofs.Ytjhdnachbahbmaa
