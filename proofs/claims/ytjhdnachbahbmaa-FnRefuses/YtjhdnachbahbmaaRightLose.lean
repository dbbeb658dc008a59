/- To lose keeps a heap right, whatever is lost, as long as the counts bear what waits. Plain facts, no program. -/
import Derived.Test.YtjhdnachbahbmaaRightMath
import Derived.Test.YtjhdnachbahbmaaAppMath
namespace Go.Proofs.Ytjhdnachbahbmaa
open Go.RowKit
set_option linter.unusedVariables false
set_option maxRecDepth 100000

theorem inE_setO (x : Int) (H : HeapD) (k : Nat) (hk : k < H.objs.length) (o : ObjD) : inE x (setO H k o).objs + inO x H.objs[k] = inE x H.objs + inO x o := sum_set (inO x) H.objs k hk o
theorem idZ_live {k : Nat} {g : Int} (hk : k < 8) (h1 : 1 ≤ g) (h9 : g ≤ 999) : idZ (k : Int) g = (k : Int) + 8 * g := by unfold idZ; rw [if_pos (by omega)]
theorem id_slot {H : HeapD} {id : Int} {k : Nat} (hk : k < H.objs.length) (ek : slotZ H id = (k : Int)) : H.objs[k].live = true ∧ k < 8 ∧ H.objs.length = 8 ∧ id = (k : Int) + 8 * H.objs[k].gen ∧ 8 ≤ id := by
  obtain ⟨j, hj, e, h8, hl, hn, hi, hb⟩ := slot_inv (H := H) (id := id) (by omega)
  obtain rfl : j = k := by omega
  exact ⟨hl, h8, hn, hi, hb⟩
theorem count_small {H : HeapD} {todo : List Int} (h : JH H todo) {k : Nat} (hk : k < H.objs.length) (hl : H.objs[k].live = true) : 1 ≤ H.objs[k].count ∧ H.objs[k].count ≤ 64 + (todo.length : Int) := by
  obtain ⟨-, -, h3⟩ := h.objs k hk
  obtain ⟨l1, -, l3, l4, -⟩ := h3 hl
  have e1 := inE_le (idZ (k : Int) H.objs[k].gen) H.objs 3 (fun z hz => by
    obtain ⟨i, hi, rfl⟩ := List.getElem_of_mem hz
    exact Nat.le_of_eq (h.objs i hi).1.2)
  have e2 : todo.count (idZ (k : Int) H.objs[k].gen) ≤ todo.length := List.count_le_length
  have e3 := h.size.1
  rw [e3] at e1
  omega

/-- What is lost has more that keep it. -/
theorem jh_keep {H : HeapD} {id : Int} {rest : List Int} (h : JH H (id :: rest)) {k : Nat} (hk : k < H.objs.length) (ek : slotZ H id = (k : Int)) (hc : 1 < H.objs[k].count) (p : Bool) (b : List Int) (hp : p = true ↔ id ∈ b) (hb : ∀ x, x ≠ id → (x ∈ b ↔ x ∈ H.buffer)) (hbn : b.Nodup) :
    JH { setO H k { H.objs[k] with count := H.objs[k].count - 1, purple := p } with buffer := b } rest := by
  obtain ⟨hl, h8, hn, hi, hi8⟩ := id_slot hk ek
  obtain ⟨o', ho'⟩ : ∃ o', ({ H.objs[k] with count := H.objs[k].count - 1, purple := p } : ObjD) = o' := ⟨_, rfl⟩
  have ol : o'.live = true := by rw [← ho']; exact hl
  have og : o'.gen = H.objs[k].gen := by rw [← ho']
  have of : o'.field = H.objs[k].field := by rw [← ho']
  rw [ho']
  have hS : ∀ x, slotZ { setO H k o' with buffer := b } x = slotZ H x := fun x => slotZ_set k hk o' (by rw [ol, hl]) og x
  have hI : ∀ x, inE x (setO H k o').objs = inE x H.objs := fun x => by
    have e := inE_setO x H k hk o'
    have e2 : inO x o' = inO x H.objs[k] := by unfold inO; rw [ol, hl, of]
    omega
  obtain ⟨h1, -, h3⟩ := h.objs k hk
  obtain ⟨⟨g1, -, -, -⟩, -⟩ := h3 hl
  have eid : idZ (k : Int) H.objs[k].gen = id := by rw [idZ_live h8 g1 h1.1.2]; exact hi.symm
  refine ⟨⟨by simpa [setO] using h.size.1, h.size.2⟩, fun i hi => ?_, h.weaks, fun x hx => ?_, hbn, h.sites⟩
  · have hi2 : i < H.objs.length := by simpa [setO] using hi
    by_cases e : i = k
    · subst e
      have eo : ({ setO H i o' with buffer := b } : HeapD).objs[i] = o' := by simp [setO]
      rw [eo]
      obtain ⟨l1, l2, l3, l4, l5⟩ := h3 hl
      refine ⟨by rw [og, of]; exact h1, fun hd => (by rw [ol] at hd; cases hd), fun _ => ?_⟩
      refine ⟨by rw [← ho']; exact l1, fun j hj => ?_, ?_, ?_, ?_⟩
      · rw [hS]
        have hj2 : j < H.objs[i].field.length := by rw [← of]; exact hj
        have := l2 j hj2
        rw [show o'.field[j] = H.objs[i].field[j] from by simp only [of]]
        exact this
      · rw [og, eid] at *
        show o'.count = o'.holds + o'.roots + (inE id (setO H i o').objs : Int) + _
        rw [hI, ← ho']
        rw [List.count_cons_self] at l3
        simp only
        omega
      · rw [← ho']; simp only; omega
      · rw [og, eid, ← ho']; exact hp
    · have eo : ({ setO H k o' with buffer := b } : HeapD).objs[i] = H.objs[i] := by simp [setO, List.getElem_set_ne (Ne.symm e)]
      rw [eo]
      obtain ⟨m1, m2, m3⟩ := h.objs i hi2
      refine ⟨m1, m2, fun hli => ?_⟩
      obtain ⟨l1, l2, l3, l4, l5⟩ := m3 hli
      have hne : idZ (i : Int) H.objs[i].gen ≠ id := fun e2 => by
        have := slot_of hn hi2 hli ⟨l1.1, m1.1.2⟩
        rw [e2, ek] at this; omega
      refine ⟨l1, fun j hj => by rw [hS]; exact l2 j hj, ?_, l4, l5.trans (hb _ hne).symm⟩
      show _ = _ + _ + (inE _ (setO H k o').objs : Int) + _
      rw [hI, l3, List.count_cons_of_ne (Ne.symm hne)]
  · rw [hS]
    by_cases e : x = id
    · rw [e, ek]; omega
    · exact h.bufS x ((hb x e).1 hx)

/-- What is lost goes, and what it led to waits. -/
theorem jh_free {H : HeapD} {id : Int} {rest : List Int} (h : JH H (id :: rest)) {k : Nat} (hk : k < H.objs.length) (ek : slotZ H id = (k : Int)) (hc : H.objs[k].count ≤ 1) :
    JH { setO H k (emptyD H.objs[k].gen) with buffer := H.buffer.filter (fun z => decide (z ≠ id)) } (rest ++ H.objs[k].field.filter (fun z => decide (0 ≤ z))) ∧ liveN (setO H k (emptyD H.objs[k].gen)).objs + 1 = liveN H.objs := by
  obtain ⟨hl, h8, hn, hi, hi8⟩ := id_slot hk ek
  obtain ⟨h1, -, h3⟩ := h.objs k hk
  obtain ⟨⟨g1, q1, q2, q3⟩, -, l3, l4, -⟩ := h3 hl
  have eid : idZ (k : Int) H.objs[k].gen = id := by rw [idZ_live h8 g1 h1.1.2]; exact hi.symm
  rw [eid, List.count_cons_self] at l3
  have z0 : inE id H.objs = 0 := by omega
  have hno : ∀ i (hi : i < H.objs.length), H.objs[i].live = true → id ∉ H.objs[i].field := fun i hi hli hm => by
    have e1 : inO id H.objs[i] ≤ inE id H.objs := sum_le (inO id) H.objs i hi
    have e2 : inO id H.objs[i] = H.objs[i].field.count id := by unfold inO; rw [if_pos hli]
    have e3 := List.count_pos_iff.2 hm
    omega
  have hS : ∀ x, x ≠ id → slotZ { setO H k (emptyD H.objs[k].gen) with buffer := H.buffer.filter (fun z => decide (z ≠ id)) } x = slotZ H x := fun x hx => slot_dead k hk _ rfl x (fun e => by
    obtain ⟨-, -, -, e2, -⟩ := id_slot hk e
    exact hx (e2.trans hi.symm))
  have hI : ∀ x, inE x (setO H k (emptyD H.objs[k].gen)).objs + H.objs[k].field.count x = inE x H.objs := fun x => by
    have e := inE_setO x H k hk (emptyD H.objs[k].gen)
    have e1 : inO x (emptyD H.objs[k].gen) = 0 := rfl
    have e2 : inO x H.objs[k] = H.objs[k].field.count x := by unfold inO; rw [if_pos hl]
    omega
  refine ⟨⟨⟨by simpa [setO] using h.size.1, h.size.2⟩, fun i hi => ?_, h.weaks, fun x hx => ?_, ?_, h.sites⟩, ?_⟩
  · have hi2 : i < H.objs.length := by simpa [setO] using hi
    by_cases e : i = k
    · subst e
      have eo : ({ setO H i (emptyD H.objs[i].gen) with buffer := H.buffer.filter (fun z => decide (z ≠ id)) } : HeapD).objs[i] = emptyD H.objs[i].gen := by simp [setO]
      rw [eo]
      refine ⟨⟨h1.1, rfl⟩, fun _ => ⟨rfl, rfl, rfl, rfl, rfl, fun j hj => ?_⟩, fun hd => (by cases hd)⟩
      have hj3 : j < 3 := hj
      match j, hj3 with
      | 0, _ => rfl
      | 1, _ => rfl
      | 2, _ => rfl
    · have eo : ({ setO H k (emptyD H.objs[k].gen) with buffer := H.buffer.filter (fun z => decide (z ≠ id)) } : HeapD).objs[i] = H.objs[i] := by simp [setO, List.getElem_set_ne (Ne.symm e)]
      rw [eo]
      obtain ⟨m1, m2, m3⟩ := h.objs i hi2
      refine ⟨m1, m2, fun hli => ?_⟩
      obtain ⟨l1, l2, l3', l4', l5⟩ := m3 hli
      have hne : idZ (i : Int) H.objs[i].gen ≠ id := fun e2 => by
        have := slot_of hn hi2 hli ⟨l1.1, m1.1.2⟩
        rw [e2, ek] at this; omega
      have hpos : (0 : Int) ≤ idZ (i : Int) H.objs[i].gen := by rw [idZ_live (by omega) l1.1 m1.1.2]; omega
      refine ⟨l1, fun j hj => ?_, ?_, l4', l5.trans ?_⟩
      · by_cases e9 : H.objs[i].field[j] = id
        · exact absurd (e9 ▸ List.getElem_mem hj) (hno i hi2 hli)
        · rw [hS _ e9]; exact l2 j hj
      · show _ = _ + _ + (inE _ (setO H k (emptyD H.objs[k].gen)).objs : Int) + _
        have e1 := hI (idZ (i : Int) H.objs[i].gen)
        rw [List.count_cons_of_ne (Ne.symm hne)] at l3'
        rw [List.count_append, List.count_filter (by simpa using hpos)]
        omega
      · rw [List.mem_filter]
        constructor
        · intro hm; exact ⟨hm, by simpa using hne⟩
        · intro hm; exact hm.1
  · obtain ⟨hx1, hx2⟩ := List.mem_filter.1 hx
    rw [hS x (by simpa using hx2)]
    exact h.bufS x hx1
  · exact List.Pairwise.filter _ h.bufN
  · have e := sum_set liveO1 H.objs k hk (emptyD H.objs[k].gen)
    have e1 : liveO1 H.objs[k] = 1 := by unfold liveO1; rw [if_pos hl]
    have e2 : liveO1 (emptyD H.objs[k].gen) = 0 := rfl
    show (List.map liveO1 (H.objs.set k (emptyD H.objs[k].gen))).sum + 1 = (List.map liveO1 H.objs).sum
    omega
theorem liveN_keep {H : HeapD} {k : Nat} (hk : k < H.objs.length) (o : ObjD) (hl : o.live = H.objs[k].live) : liveN (setO H k o).objs = liveN H.objs := by
  have e := sum_set liveO1 H.objs k hk o
  have e1 : liveO1 o = liveO1 H.objs[k] := by unfold liveO1; rw [hl]
  show (List.map liveO1 (H.objs.set k o)).sum = (List.map liveO1 H.objs).sum
  omega

theorem jh_step {H : HeapD} {id : Int} {rest fr : List Int} (h : JH H (id :: rest)) (hb : rest.length ≤ 1152921504606846976) :
    JH (stepD H id rest fr).1 (stepD H id rest fr).2.1 ∧ liveN (stepD H id rest fr).1.objs + (stepD H id rest fr).2.2.length = liveN H.objs + fr.length := by
  by_cases hs : slotZ H id < 0
  · rw [step_dead hs]
    refine ⟨⟨h.size, fun i hi => ?_, h.weaks, h.bufS, h.bufN, h.sites⟩, rfl⟩
    obtain ⟨m1, m2, m3⟩ := h.objs i hi
    refine ⟨m1, m2, fun hli => ?_⟩
    obtain ⟨l1, l2, l3, l4, l5⟩ := m3 hli
    have hne : idZ (i : Int) H.objs[i].gen ≠ id := fun e2 => by
      have := slot_of h.size.1 hi hli ⟨l1.1, m1.1.2⟩
      rw [e2] at this; omega
    rw [List.count_cons_of_ne (Ne.symm hne)] at l3
    exact ⟨l1, l2, l3, l4, l5⟩
  · obtain ⟨k, hk, ek, -⟩ := slot_inv (H := H) (id := id) (by omega)
    obtain ⟨hl, h8, hn, hi, hi8⟩ := id_slot hk ek
    obtain ⟨c1, c2⟩ := count_small h hk hl
    rw [List.length_cons] at c2
    have hw : wrap64 (H.objs[k].count - 1) = H.objs[k].count - 1 := by unfold wrap64; omega
    obtain ⟨h1, -, h3⟩ := h.objs k hk
    obtain ⟨⟨g1, -, -, -⟩, -, -, -, l5⟩ := h3 hl
    have eid : idZ (k : Int) H.objs[k].gen = id := by rw [idZ_live h8 g1 h1.1.2]; exact hi.symm
    rw [eid] at l5
    rw [step_at hk ek, hw]
    by_cases hc : 0 < H.objs[k].count - 1
    · rw [if_pos hc]
      by_cases hp : H.objs[k].purple = true
      · rw [if_pos hp]
        have := jh_keep h hk ek (by omega) true H.buffer (by simpa using l5.1 hp) (fun x _ => Iff.rfl) h.bufN
        have eo : ({ H.objs[k] with count := H.objs[k].count - 1, purple := true } : ObjD) = { H.objs[k] with count := H.objs[k].count - 1 } := by rw [← hp]
        rw [eo] at this
        exact ⟨this, by simp only; exact congrArg (· + fr.length) (liveN_keep hk _ rfl)⟩
      · rw [if_neg hp]
        have hnb : id ∉ H.buffer := fun hm => hp (l5.2 hm)
        have := jh_keep h hk ek (by omega) true (H.buffer ++ [id]) (by simp) (fun x hx => by simp [hx]) (by
          unfold List.Nodup
          rw [List.pairwise_append]
          refine ⟨h.bufN, List.pairwise_singleton _ _, fun a ha b hb' => ?_⟩
          rw [List.mem_singleton.1 hb']
          exact fun e => hnb (e ▸ ha))
        exact ⟨this, by simp only; exact congrArg (· + fr.length) (liveN_keep hk _ rfl)⟩
    · rw [if_neg hc]
      obtain ⟨a1, a2⟩ := jh_free h hk ek (by omega)
      refine ⟨a1, ?_⟩
      simp only [List.length_append, List.length_cons, List.length_nil]
      have a3 : liveN (setO H k (emptyD H.objs[k].gen)).objs + 1 = liveN H.objs := a2
      show liveN (setO H k (emptyD H.objs[k].gen)).objs + _ = _
      omega

theorem liveN_le (os : List ObjD) : liveN os ≤ os.length := by
  unfold liveN
  induction os with
  | nil => simp
  | cons a r ih =>
    simp
    have : liveO1 a ≤ 1 := by unfold liveO1; split <;> omega
    omega
theorem right_run (R : HeapD × List Int) : ∀ (m : Nat) (H : HeapD) (todo fr : List Int), ToR R H todo fr → muL todo fr ≤ m → JH H todo → liveN H.objs + fr.length ≤ 8 → JH R.1 [] ∧ R.2.length ≤ 8 := by
  intro m
  induction m with
  | zero =>
    intro H todo fr hR hm hJ hf
    exfalso; unfold muL at hm; omega
  | succ m ih =>
    intro H todo fr hR hm hJ hf
    cases todo with
    | nil => rw [toR_end hR (.inl rfl)]; exact ⟨hJ, by simp only; omega⟩
    | cons id rest =>
      have h8 : fr.length ≤ 8 := by omega
      obtain ⟨-, h2⟩ := loseOk_step hR.ok h8
      have hb := hR.ok.buf
      have hlen : rest.length ≤ 1152921504606846976 := by unfold muL at hb; rw [List.length_cons] at hb; omega
      obtain ⟨j1, j2⟩ := jh_step (fr := fr) hJ hlen
      exact ih _ _ _ (toR_step hR h8) (by omega) j1 (by omega)
/-- A right heap of which some waiting ids are lost is right. -/
theorem lose_right {H : HeapD} {ids : List Int} (h : JH H ids) (hs : SmallH H) (hw : ∀ z ∈ H.objs, ∀ x ∈ z.field, in64 x) (hl : ids.length ≤ 1048576) (hi : ∀ x ∈ ids, in64 x) : OkH (loseR H ids).1 ∧ (loseR H ids).2.length ≤ 8 := by
  have hR : ToR (loseR H ids) H ids [] := ⟨⟨hs.objs, hs.fields, hw, hi, by simp, by have := hs.buffer; unfold muL; simp; omega, hs.weaks, hs.sites⟩, _, Nat.le_refl _, rfl⟩
  obtain ⟨a, b⟩ := right_run (loseR H ids) _ H ids [] hR (Nat.le_refl _) h (by have := liveN_le H.objs; have := h.size.1; simp; omega)
  exact ⟨ok_of_jh a, b⟩

end Go.Proofs.Ytjhdnachbahbmaa
