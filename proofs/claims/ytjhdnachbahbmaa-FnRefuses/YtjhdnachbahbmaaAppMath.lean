/- What Apply answers, as plain functions. -/
import Derived.Test.YtjhdnachbahbmaaFreeWalks
import Derived.Test.YtjhdnachbahbmaaISlicesWalks
import Derived.Test.YtjhdnachbahbmaaLoseParts
import Derived.Test.YtjhdnachbahbmaaILoseWalks
import Derived.Test.YtjhdnachbahbmaaOpBase
namespace Go.Proofs.Ytjhdnachbahbmaa
open Go.RowKit
set_option linter.unusedVariables false
set_option maxRecDepth 100000

def refR (H : HeapD) (c : Int) : HeapD × AnsD := (H, ⟨c, 0, []⟩)
def lostR (H : HeapD) (id : Int) : HeapD × AnsD := ((loseR H [id]).1, ⟨0, 0, (loseR H [id]).2⟩)
def madeO (g s : Int) : ObjD := ⟨true, g, s, 1, 0, 1, [-1, -1, -1], false⟩
def siteZ (H : HeapD) (x : List UInt8) : Int := idxL x H.sites 0
/-- A new name is put behind the others. -/
def namedH (H : HeapD) (x : List UInt8) : HeapD := if siteZ H x < 0 then { H with sites := H.sites ++ [x] } else H
def siteN (H : HeapD) (x : List UInt8) : Int := if siteZ H x < 0 then (H.sites.length : Int) else siteZ H x
def allocR (H : HeapD) (x : List UInt8) : HeapD × AnsD :=
  if x.length < 1 ∨ 8 < x.length then refR H 2
  else if freeZ H < 0 then refR H 3
  else if siteZ H x < 0 ∧ 6 ≤ H.sites.length then refR H 6
  else match H.objs[(freeZ H).toNat]? with
    | none => refR H 3
    | some o => (setO (namedH H x) (freeZ H).toNat (madeO (o.gen + 1) (siteN H x)), ⟨0, idZ (freeZ H) (o.gen + 1), []⟩)
def holdR (H : HeapD) (kind a : Int) : HeapD × AnsD :=
  if slotZ H a < 0 then refR H 1
  else match H.objs[(slotZ H a).toNat]? with
    | none => refR H 1
    | some o =>
      if kind = 2 then (if 20 ≤ o.holds then refR H 4 else (gainD (setO H (slotZ H a).toNat { o with holds := o.holds + 1 }) a, ⟨0, 0, []⟩))
      else if kind = 5 then (if 20 ≤ o.roots then refR H 4 else (gainD (setO H (slotZ H a).toNat { o with roots := o.roots + 1 }) a, ⟨0, 0, []⟩))
      else if kind = 3 then (if o.holds < 1 then refR H 5 else lostR (setO H (slotZ H a).toNat { o with holds := o.holds - 1 }) a)
      else if o.roots < 1 then refR H 5 else lostR (setO H (slotZ H a).toNat { o with roots := o.roots - 1 }) a
def storeR (H : HeapD) (a b c : Int) : HeapD × AnsD :=
  if slotZ H a < 0 ∨ (c ≠ -1 ∧ slotZ H c < 0) then refR H 1
  else if b < 0 ∨ 2 < b then refR H 2
  else match (gainD H c).objs[(slotZ H a).toNat]? with
    | none => refR H 1
    | some o => lostR (setO (gainD H c) (slotZ H a).toNat { o with field := o.field.set b.toNat c }) (o.field.getD b.toNat (-1))
/-- The first handle that is not used. -/
def freeW : List WeakD → Int → Int
  | [], _ => -1
  | d :: r, i => if d.used = false then i else freeW r (i + 1)
def weakR (H : HeapD) (a : Int) : HeapD × AnsD :=
  if slotZ H a < 0 then refR H 1
  else if freeW H.weaks 0 < 0 then refR H 3
  else ({ H with weaks := H.weaks.set (freeW H.weaks 0).toNat ⟨true, a⟩ }, ⟨0, freeW H.weaks 0, []⟩)
/-- The handle of that number, where it is used. -/
def usedW (H : HeapD) (a : Int) : Option WeakD :=
  if a < 0 ∨ (H.weaks.length : Int) ≤ a then none
  else match H.weaks[a.toNat]? with
    | none => none
    | some d => if d.used = true then some d else none
def loadR (H : HeapD) (a : Int) : HeapD × AnsD := match usedW H a with
  | none => refR H 2
  | some d => (H, ⟨0, if slotZ H d.target < 0 then -1 else d.target, []⟩)
def dropR (H : HeapD) (a : Int) : HeapD × AnsD := match usedW H a with
  | none => refR H 2
  | some _ => ({ H with weaks := H.weaks.set a.toNat ⟨false, 0⟩ }, ⟨0, 0, []⟩)
theorem freeL_bd : ∀ (os : List ObjD) (i : Int), freeL os i = -1 ∨ ∃ (j : Nat) (h : j < os.length), freeL os i = i + (j : Int) ∧ os[j].live = false ∧ os[j].gen < 999 := by
  intro os
  induction os with
  | nil => intro i; exact .inl rfl
  | cons o r ih =>
    intro i
    unfold freeL
    by_cases h : o.live = false ∧ o.gen < 999
    · rw [if_pos h]
      exact .inr ⟨0, by simp, by simp, h.1, h.2⟩
    · rw [if_neg h]
      rcases ih (i + 1) with e | ⟨j, hj, e, h1⟩
      · exact .inl e
      · exact .inr ⟨j + 1, by simpa using hj, by rw [e]; omega, h1⟩
/-- The free slot, where there is one. -/
theorem freeZ_yes (H : HeapD) (h : ¬ freeZ H < 0) : ∃ (k : Nat) (hk : k < H.objs.length), freeZ H = (k : Int) ∧ k < 8 ∧ H.objs[k].live = false ∧ H.objs[k].gen < 999 := by
  unfold freeZ at h ⊢
  rcases freeL_bd (H.objs.take 8) 0 with e | ⟨j, hj, e, h1, h2⟩
  · rw [e] at h; omega
  · have hl := hj
    rw [List.length_take] at hl
    rw [List.getElem_take] at h1 h2
    exact ⟨j, by omega, by rw [e]; omega, by omega, h1, h2⟩
theorem freeW_bd : ∀ (ds : List WeakD) (i : Int), freeW ds i = -1 ∨ ∃ (j : Nat) (h : j < ds.length), freeW ds i = i + (j : Int) := by
  intro ds
  induction ds with
  | nil => intro i; exact .inl rfl
  | cons o r ih =>
    intro i
    unfold freeW
    split
    · exact .inr ⟨0, by simp, by simp⟩
    · rcases ih (i + 1) with e | ⟨j, hj, e⟩
      · exact .inl e
      · exact .inr ⟨j + 1, by simpa using hj, by rw [e]; omega⟩
theorem freeW_yes (H : HeapD) (h : ¬ freeW H.weaks 0 < 0) : ∃ k : Nat, k < H.weaks.length ∧ freeW H.weaks 0 = (k : Int) := by
  rcases freeW_bd H.weaks 0 with e | ⟨j, hj, e⟩
  · rw [e] at h; omega
  · exact ⟨j, hj, by rw [e]; omega⟩
theorem freeW_step (ds : List WeakD) (j : Nat) (h : j < ds.length) : freeW (ds.drop j) (j : Int) = if ds[j].used = false then (j : Int) else freeW (ds.drop (j + 1)) ((j + 1 : Nat) : Int) := by
  rw [List.drop_eq_getElem_cons h]; simp [freeW]
theorem freeW_end (ds : List WeakD) (i : Int) : freeW (ds.drop ds.length) i = -1 := by rw [List.drop_length]; rfl

/-- Small heaps stay small. -/
theorem setO_small {H : HeapD} (hs : SmallH H) (k : Nat) (o : ObjD) (ho : o.field.length ≤ 1048576) : SmallH (setO H k o) :=
  ⟨by simpa [setO] using hs.objs, fun z hz => by
    rcases setO_mem hz with hz | rfl
    · exact hs.fields z hz
    · exact ho, hs.weaks, hs.buffer, hs.sites, hs.names⟩
theorem setO_wf {H : HeapD} (hw : ∀ z ∈ H.objs, ∀ x ∈ z.field, in64 x) (k : Nat) (o : ObjD) (ho : ∀ x ∈ o.field, in64 x) : ∀ z ∈ (setO H k o).objs, ∀ x ∈ z.field, in64 x := fun z hz => by
  rcases setO_mem hz with hz | rfl
  · exact hw z hz
  · exact ho
theorem gain_len (H : HeapD) (id : Int) : (gainD H id).objs.length = H.objs.length := by
  unfold gainD
  split
  · unfold incD; split <;> simp
  · rfl
/-- Gain turns counts alone. -/
theorem gain_get (H : HeapD) (id : Int) (k : Nat) (h : k < H.objs.length) (h2 : k < (gainD H id).objs.length) : ∃ c, (gainD H id).objs[k] = { H.objs[k] with count := c } := by
  by_cases hg : 0 ≤ slotZ H id
  · obtain ⟨j, hj, ej, _⟩ := slotZ_yes H id hg
    have e : gainD H id = incD H j 1 := by unfold gainD; rw [if_pos hg, ej]; rfl
    have e2 : (gainD H id).objs[k] = (incD H j 1).objs[k]'(by rw [← e]; exact h2) := by congr 1; rw [e]
    rw [e2]
    have e3 : (incD H j 1).objs[k]'(by rw [← e]; exact h2) = (H.objs.set j { H.objs[j] with count := wrap64 (H.objs[j].count + 1) })[k]'(by simpa using h) := by congr 1; rw [incD_at hj]
    rw [e3, List.getElem_set]
    split
    · rename_i e4; subst e4; exact ⟨_, rfl⟩
    · exact ⟨H.objs[k].count, rfl⟩
  · have e : gainD H id = H := by unfold gainD; rw [if_neg hg]
    have e2 : (gainD H id).objs[k] = H.objs[k] := by congr 1; rw [e]
    rw [e2]
    exact ⟨H.objs[k].count, rfl⟩
theorem gain_rest (H : HeapD) (id : Int) : (gainD H id).weaks = H.weaks ∧ (gainD H id).buffer = H.buffer ∧ (gainD H id).sites = H.sites := by
  unfold gainD
  split
  · unfold incD; split <;> exact ⟨rfl, rfl, rfl⟩
  · exact ⟨rfl, rfl, rfl⟩
theorem gain_field {H : HeapD} {id : Int} {z : ObjD} (hz : z ∈ (gainD H id).objs) : ∃ y ∈ H.objs, z.field = y.field := by
  obtain ⟨k, hk, rfl⟩ := List.getElem_of_mem hz
  have hk2 : k < H.objs.length := by rw [← gain_len H id]; exact hk
  obtain ⟨c, e⟩ := gain_get H id k hk2 hk
  exact ⟨_, List.getElem_mem hk2, by rw [e]⟩
theorem gainH_small {H : HeapD} (hs : SmallH H) (id : Int) : SmallH (gainD H id) := by
  obtain ⟨e1, e2, e3⟩ := gain_rest H id
  exact ⟨by rw [gain_len]; exact hs.objs, fun z hz => by
    obtain ⟨y, hy, e⟩ := gain_field hz
    rw [e]; exact hs.fields y hy, by rw [e1]; exact hs.weaks, by rw [e2]; exact hs.buffer, by rw [e3]; exact hs.sites, by rw [e3]; exact hs.names⟩
theorem gain_wf {H : HeapD} (hw : ∀ z ∈ H.objs, ∀ x ∈ z.field, in64 x) (id : Int) : ∀ z ∈ (gainD H id).objs, ∀ x ∈ z.field, in64 x := fun z hz => by
  obtain ⟨y, hy, e⟩ := gain_field hz
  rw [e]; exact hw y hy
/-- Where it leads is not changed by holds, roots and fields. -/
theorem slotZ_set {H : HeapD} (k : Nat) (hk : k < H.objs.length) (o : ObjD) (h1 : o.live = H.objs[k].live) (h2 : o.gen = H.objs[k].gen) (id : Int) : slotZ (setO H k o) id = slotZ H id := by
  unfold slotZ
  have hl : (setO H k o).objs.length = H.objs.length := by simp [setO]
  rw [hl]
  by_cases hc : (id < 8 ∨ H.objs.length ≠ 8)
  · first | rw [if_pos hc, if_pos hc] | simp [hc]
  · have e : (setO H k o).objs[(id % 8).toNat]? = if k = (id % 8).toNat then some o else H.objs[(id % 8).toNat]? := by
      show (H.objs.set k o)[(id % 8).toNat]? = _
      rw [List.getElem?_set]
      split
      · first | rfl | (rename_i e; rw [if_pos (by rw [← e]; exact hk)])
      · rfl
    rw [e]
    by_cases e4 : k = (id % 8).toNat
    · rw [if_pos e4, ← e4, List.getElem?_eq_getElem hk]
      simp only [h1, h2]
    · rw [if_neg e4]
/-- Nothing is lost where nobody has the id. -/
theorem lose_none (H : HeapD) (id : Int) (h : slotZ H id < 0) : loseR H [id] = (H, []) := by
  have e : muL [id] [] = (muL [id] [] - 1) + 1 := by unfold muL; simp
  unfold loseR
  rw [e, loseF_step (by simp), step_dead h, loseF_end (.inl rfl)]

end Go.Proofs.Ytjhdnachbahbmaa
