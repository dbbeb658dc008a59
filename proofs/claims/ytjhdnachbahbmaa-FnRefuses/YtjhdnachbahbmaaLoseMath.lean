/- To lose, as a plain function; rows that are cut at the front and grow behind. -/
import Derived.Test.YtjhdnachbahbmaaGainWalks
import Derived.Test.YtjhdnachbahbmaaEmptyWalks
namespace Go.Proofs.Ytjhdnachbahbmaa
open Go.RowKit
set_option linter.unusedVariables false
set_option maxRecDepth 100000

def setO (H : HeapD) (k : Nat) (o : ObjD) : HeapD := { H with objs := H.objs.set k o }
/-- One id is gone through, behind it 'rest' wait, 'fr' are freed. -/
def stepD (H : HeapD) (id : Int) (rest fr : List Int) : HeapD × List Int × List Int :=
  if slotZ H id < 0 then (H, rest, fr)
  else match H.objs[(slotZ H id).toNat]? with
    | none => (H, rest, fr)
    | some o =>
      if 0 < wrap64 (o.count - 1) then
        if o.purple = true then (setO H (slotZ H id).toNat { o with count := wrap64 (o.count - 1) }, rest, fr)
        else ({ setO H (slotZ H id).toNat { o with count := wrap64 (o.count - 1), purple := true } with buffer := H.buffer ++ [id] }, rest, fr)
      else ({ setO H (slotZ H id).toNat (emptyD o.gen) with buffer := H.buffer.filter (fun z => decide (z ≠ id)) }, rest ++ o.field.filter (fun z => decide (0 ≤ z)), fr ++ [id])
def loseF : Nat → HeapD → List Int → List Int → HeapD × List Int
  | 0, H, _, fr => (H, fr)
  | _ + 1, H, [], fr => (H, fr)
  | n + 1, H, id :: rest, fr => if 8 < fr.length then (H, fr) else loseF n (stepD H id rest fr).1 (stepD H id rest fr).2.1 (stepD H id rest fr).2.2
/-- How many rounds may still come. -/
def muL (todo fr : List Int) : Nat := todo.length + (9 - fr.length) * 1048577
/-- What holds of a heap, of what waits and what is freed, from round to round. -/
structure LoseOk (H : HeapD) (todo fr : List Int) : Prop where
  objs : H.objs.length ≤ 1048576
  fields : ∀ z ∈ H.objs, z.field.length ≤ 1048576
  wf : ∀ z ∈ H.objs, ∀ x ∈ z.field, in64 x
  ids : ∀ x ∈ todo, in64 x
  frl : fr.length ≤ 9
  buf : H.buffer.length + muL todo fr ≤ 11534345
  weaks : H.weaks.length ≤ 1048576
  sites : H.sites.length ≤ 1048576
/-- The four ways of a round. -/
theorem step_dead {H : HeapD} {id : Int} {rest fr : List Int} (h : slotZ H id < 0) : stepD H id rest fr = (H, rest, fr) := by unfold stepD; rw [if_pos h]
theorem step_at {H : HeapD} {id : Int} {rest fr : List Int} {k : Nat} (hk : k < H.objs.length) (h : slotZ H id = (k : Int)) : stepD H id rest fr =
      if 0 < wrap64 (H.objs[k].count - 1) then
        if H.objs[k].purple = true then (setO H k { H.objs[k] with count := wrap64 (H.objs[k].count - 1) }, rest, fr)
        else ({ setO H k { H.objs[k] with count := wrap64 (H.objs[k].count - 1), purple := true } with buffer := H.buffer ++ [id] }, rest, fr)
      else ({ setO H k (emptyD H.objs[k].gen) with buffer := H.buffer.filter (fun z => decide (z ≠ id)) }, rest ++ H.objs[k].field.filter (fun z => decide (0 ≤ z)), fr ++ [id]) := by
  unfold stepD
  rw [if_neg (by omega), h, show ((k : Int)).toNat = k from by omega, List.getElem?_eq_getElem hk]
theorem muL_cons {id : Int} {rest fr : List Int} : muL (id :: rest) fr = muL rest fr + 1 := by unfold muL; rw [List.length_cons]; omega
theorem muL_freed {id : Int} {rest fr Y : List Int} (hf : fr.length ≤ 8) (hy : Y.length ≤ 1048576) : muL (rest ++ Y) (fr ++ [id]) < muL (id :: rest) fr := by
  unfold muL
  simp only [List.length_append, List.length_cons, List.length_nil]
  omega
theorem setO_mem {H : HeapD} {k : Nat} {o z : ObjD} (h : z ∈ (setO H k o).objs) : z ∈ H.objs ∨ z = o := List.mem_or_eq_of_mem_set h
theorem loseOk_step {H : HeapD} {id : Int} {rest fr : List Int} (h : LoseOk H (id :: rest) fr) (hf : fr.length ≤ 8) : LoseOk (stepD H id rest fr).1 (stepD H id rest fr).2.1 (stepD H id rest fr).2.2 ∧ muL (stepD H id rest fr).2.1 (stepD H id rest fr).2.2 < muL (id :: rest) fr := by
  have hids : ∀ x ∈ rest, in64 x := fun x hx => h.ids x (List.mem_cons_of_mem _ hx)
  have hbuf := h.buf
  rw [muL_cons] at hbuf
  by_cases hs : slotZ H id < 0
  · rw [step_dead hs]
    exact ⟨⟨h.objs, h.fields, h.wf, hids, h.frl, by simp only; omega, h.weaks, h.sites⟩, by rw [muL_cons]; simp only; omega⟩
  · obtain ⟨k, hk, ek, -⟩ := slotZ_yes H id (by omega)
    rw [step_at hk ek]
    have hmk := List.getElem_mem hk
    split
    · split
      · refine ⟨⟨by simpa [setO] using h.objs, fun z hz => ?_, fun z hz => ?_, hids, h.frl, by simp only [setO]; omega, h.weaks, h.sites⟩, by rw [muL_cons]; simp only; omega⟩
        · rcases setO_mem hz with hz | rfl
          · exact h.fields z hz
          · show H.objs[k].field.length ≤ 1048576
            exact h.fields _ hmk
        · rcases setO_mem hz with hz | rfl
          · exact h.wf z hz
          · show ∀ x ∈ H.objs[k].field, in64 x
            exact h.wf _ hmk
      · refine ⟨⟨by simpa [setO] using h.objs, fun z hz => ?_, fun z hz => ?_, hids, h.frl, by simp only [List.length_append, List.length_singleton]; omega, h.weaks, h.sites⟩, by rw [muL_cons]; simp only; omega⟩
        · rcases setO_mem hz with hz | rfl
          · exact h.fields z hz
          · show H.objs[k].field.length ≤ 1048576
            exact h.fields _ hmk
        · rcases setO_mem hz with hz | rfl
          · exact h.wf z hz
          · show ∀ x ∈ H.objs[k].field, in64 x
            exact h.wf _ hmk
    · have hfl : (H.objs[k].field.filter (fun z => decide (0 ≤ z))).length ≤ 1048576 := Nat.le_trans (List.length_filter_le _ _) (h.fields _ hmk)
      have hmu := muL_freed (id := id) (rest := rest) (fr := fr) hf hfl
      have hbl : (H.buffer.filter (fun z => decide (z ≠ id))).length ≤ H.buffer.length := List.length_filter_le _ _
      refine ⟨⟨by simpa [setO] using h.objs, fun z hz => ?_, fun z hz => ?_, ?_, by simp only [List.length_append, List.length_singleton]; omega, ?_, h.weaks, h.sites⟩, hmu⟩
      · rcases setO_mem hz with hz | rfl
        · exact h.fields z hz
        · simp [emptyD]
      · rcases setO_mem hz with hz | rfl
        · exact h.wf z hz
        · intro x hx; simp [emptyD] at hx; subst hx; unfold in64; omega
      · intro x hx
        rcases List.mem_append.1 hx with hx | hx
        · exact hids x hx
        · exact h.wf _ hmk x (List.mem_filter.1 hx).1
      · rw [muL_cons] at hmu
        simp only at hmu ⊢
        omega
theorem loseF_step {n : Nat} {H : HeapD} {id : Int} {rest fr : List Int} (hf : fr.length ≤ 8) : loseF (n + 1) H (id :: rest) fr = loseF n (stepD H id rest fr).1 (stepD H id rest fr).2.1 (stepD H id rest fr).2.2 := by
  rw [loseF, if_neg (by omega)]
theorem loseF_end {n : Nat} {H : HeapD} {todo fr : List Int} (h : todo = [] ∨ 8 < fr.length) : loseF n H todo fr = (H, fr) := by
  cases n with
  | zero => rfl
  | succ n =>
    cases todo with
    | nil => rfl
    | cons id rest =>
      rcases h with h | h
      · cases h
      · rw [loseF, if_pos h]
/-- From here on it comes to R. -/
structure ToR (R : HeapD × List Int) (H : HeapD) (todo fr : List Int) : Prop where
  ok : LoseOk H todo fr
  ex : ∃ n, muL todo fr ≤ n ∧ loseF n H todo fr = R
theorem toR_step {R : HeapD × List Int} {H : HeapD} {id : Int} {rest fr : List Int} (h : ToR R H (id :: rest) fr) (hf : fr.length ≤ 8) : ToR R (stepD H id rest fr).1 (stepD H id rest fr).2.1 (stepD H id rest fr).2.2 := by
  obtain ⟨h1, h2⟩ := loseOk_step h.ok hf
  obtain ⟨n, hn, e⟩ := h.ex
  cases n with
  | zero => omega
  | succ n =>
    rw [loseF_step hf] at e
    exact ⟨h1, n, by omega, e⟩
theorem toR_end {R : HeapD × List Int} {H : HeapD} {todo fr : List Int} (h : ToR R H todo fr) (he : todo = [] ∨ 8 < fr.length) : R = (H, fr) := by
  obtain ⟨n, _, e⟩ := h.ex
  rw [← e, loseF_end he]

/-- A row of one's own that may begin in the midst of its block. -/
def ownQ (w : World) (B : Nat) (v : Value) (zs : List Int) : Prop := (v = .slice none 0 0 ∧ zs = []) ∨ ∃ g off cap cur, v = .slice (some ⟨g, off, none⟩) zs.length cap ∧ B ≤ g ∧ w.heap[g]? = some (.cells cur 3 (0, 0)) ∧ zs.length ≤ cap ∧ cap ≤ maxLen ∧ off + cap ≤ cur.size ∧ ∀ j (h : j < zs.length), cur[off + j]? = some (intV zs[j])
theorem cell_cur {w : World} {g : Nat} {cur : Array Value} {e : TypeId} (h : w.heap[g]? = some (.cells cur e (0, 0))) (k : Nat) : w.cell? ⟨g, k, none⟩ = cur[k]? := by simp [World.cell?, h]
theorem frozen_cur {w : World} {g : Nat} {cur : Array Value} {e : TypeId} (h : w.heap[g]? = some (.cells cur e (0, 0))) (k : Nat) : w.frozen? ⟨g, k, none⟩ = false := by simp [World.frozen?, h]
theorem ownQ_own {w : World} {B : Nat} {v : Value} {zs : List Int} (h : ownI w B v zs) : ownQ w B v zs := by
  rcases h with ⟨h1, ⟨h2, h3⟩ | ⟨g, cap, cur, h2, h3, h4, h5, h6, h7, h8⟩⟩
  · exact .inl ⟨h2, List.eq_nil_of_length_eq_zero h3⟩
  · refine .inr ⟨g, 0, cap, cur, h2, h3, h4, h5, h6, by omega, fun j hj => ?_⟩
    have : (cur.toList.take (zs.length * 1))[j]? = some (intV zs[j]) := by rw [h8, List.getElem?_map, List.getElem?_eq_getElem hj]; rfl
    rw [List.getElem?_take, if_pos (by omega)] at this
    rw [Nat.zero_add]
    simpa using this
theorem ownQ_same {w w' : World} {B : Nat} {v : Value} {zs : List Int} (h : ownQ w B v zs) (hs : ∀ g, v.ownBlock = some g → w'.heap[g]? = w.heap[g]?) : ownQ w' B v zs := by
  rcases h with h | ⟨g, off, cap, cur, h1, h2, h3, h4⟩
  · exact .inl h
  · exact .inr ⟨g, off, cap, cur, h1, h2, by rw [hs g (by rw [h1]; rfl)]; exact h3, h4⟩
theorem ownQ_lt {w : World} {B : Nat} {v : Value} {zs : List Int} (h : ownQ w B v zs) (g : Nat) (hg : v.ownBlock = some g) : B ≤ g ∧ g < w.heap.size := by
  rcases h with ⟨rfl, _⟩ | ⟨g2, off, cap, cur, rfl, h2, h3, _⟩
  · cases hg
  · injection hg with hg
    subst hg
    exact ⟨h2, (Array.getElem?_eq_some_iff.1 h3).1⟩
theorem ownQ_kind {w : World} {B : Nat} {v : Value} {zs : List Int} (h : ownQ w B v zs) (g : Nat) (hg : v.ownBlock = some g) : ∃ cur, w.heap[g]? = some (.cells cur 3 (0, 0)) := by
  rcases h with ⟨rfl, _⟩ | ⟨g2, off, cap, cur, rfl, h2, h3, _⟩
  · cases hg
  · injection hg with hg
    subst hg
    exact ⟨cur, h3⟩
theorem ownQ_form {w : World} {B : Nat} {v : Value} {zs : List Int} (h : ownQ w B v zs) : ∃ a c, v = .slice a zs.length c ∧ RdI w a zs := by
  rcases h with ⟨rfl, rfl⟩ | ⟨g, off, cap, cur, rfl, h2, h3, _, _, _, h7⟩
  · exact ⟨none, 0, rfl, fun j hj => by simp at hj⟩
  · exact ⟨_, cap, rfl, fun j hj => ⟨g, off, rfl, (Array.getElem?_eq_some_iff.1 h3).1, by rw [cell_cur h3]; exact h7 j hj⟩⟩
/-- The first is taken off: what the model makes of 'q[1:]'. -/
theorem ownQ_cons {w : World} {B : Nat} {v : Value} {z : Int} {zs : List Int} (h : ownQ w B v (z :: zs)) : ∃ g off cap, v = .slice (some ⟨g, off, none⟩) (zs.length + 1) (cap + 1) ∧ w.cell? ⟨g, off, none⟩ = some (.int .i64 z) ∧ zs.length ≤ cap ∧ cap ≤ 9223372036854775806 ∧
    (0 < cap → ownQ w B (.slice (some ⟨g, off + 1, none⟩) zs.length cap) zs) ∧ (cap = 0 → ownQ w B (.slice (some ⟨g, off, none⟩) zs.length cap) zs) := by
  rcases h with ⟨_, h⟩ | ⟨g, off, cap, cur, rfl, h2, h3, h4, h5, h6, h7⟩
  · cases h
  · obtain ⟨c, rfl⟩ : ∃ c, cap = c + 1 := ⟨cap - 1, by simp at h4; omega⟩
    have h0 := h7 0 (by simp)
    rw [Nat.add_zero] at h0
    simp only [List.length_cons] at h4
    refine ⟨g, off, c, rfl, by rw [cell_cur h3]; exact h0, by omega, by unfold maxLen at h5; omega, fun _ => .inr ⟨g, off + 1, c, cur, rfl, h2, h3, by omega, by omega, by omega, fun j hj => ?_⟩, fun hc => .inr ⟨g, off, c, cur, rfl, h2, h3, by omega, by omega, by omega, fun j hj => by omega⟩⟩
    have := h7 (j + 1) (by simp; omega)
    rw [show off + 1 + j = off + (j + 1) from by omega]
    simpa using this

theorem setCells_row {e : TypeId} (g : Nat) : ∀ (vs : List Value) (o : Nat) (w : World) (cur : Array Value), w.heap[g]? = some (.cells cur e (0, 0)) → o + vs.length ≤ cur.size →
    ∃ cur', (w.setCells g o vs).heap[g]? = some (.cells cur' e (0, 0)) ∧ cur'.size = cur.size ∧ (w.setCells g o vs).heap.size = w.heap.size ∧ (∀ i, i ≠ g → (w.setCells g o vs).heap[i]? = w.heap[i]?) ∧ ∀ i, cur'[i]? = if o ≤ i ∧ i < o + vs.length then vs[i - o]? else cur[i]? := by
  intro vs
  induction vs with
  | nil => intro o w cur h _; exact ⟨cur, h, rfl, rfl, fun _ _ => rfl, fun i => by rw [if_neg (by simp)]⟩
  | cons v r ih =>
    intro o w cur h hl
    simp only [List.length_cons] at hl
    obtain ⟨cur', h1, h2, h3, h4, h5⟩ := ih (o + 1) (w.setCell ⟨g, o, none⟩ v) (cur.setIfInBounds o v) (heap_setCell_same w g o cur e v h) (by simp; omega)
    refine ⟨cur', h1, by simpa using h2, by rw [show w.setCells g o (v :: r) = (w.setCell ⟨g, o, none⟩ v).setCells g (o + 1) r from rfl, h3]; simp [World.setCell], fun i hi => by rw [show w.setCells g o (v :: r) = (w.setCell ⟨g, o, none⟩ v).setCells g (o + 1) r from rfl, h4 i hi, heap_setCell_other _ _ _ _ (by exact hi)], fun i => ?_⟩
    rw [h5 i]
    by_cases e1 : i = o
    · subst e1
      rw [if_neg (by omega), if_pos (by simp), Nat.sub_self]
      rw [Array.getElem?_setIfInBounds_self_of_lt (by omega)]
      rfl
    · by_cases e2 : o + 1 ≤ i ∧ i < o + 1 + r.length
      · rw [if_pos e2, if_pos (by simp; omega), show i - o = (i - (o + 1)) + 1 from by omega, List.getElem?_cons_succ]
      · rw [if_neg e2, if_neg (by simp; omega), Array.getElem?_setIfInBounds_ne (fun e => e1 e.symm)]

/-- 'append(q, ys...)'. -/
theorem run_appendQ (ty : TypeId) (w : World) (B : Nat) (v : Value) (P : List Int) (hq : ownQ w B v P) (x : Option Addr) (Y : List Int) (c : Nat) (hs : SrcC w x Y.length 1 (Y.map intV)) (hl : P.length + Y.length ≤ 16777216) (hB : B ≤ w.heap.size) :
    ∃ v' w', (Builtin.append_ #[28, 28] ty #[v, .slice x Y.length c]).run Try.prog w = .ok v' w' ∧ ownQ w' B v' (P ++ Y) ∧ w.heap.size ≤ w'.heap.size ∧ (∀ i, i < w.heap.size → v.ownBlock ≠ some i → w'.heap[i]? = w.heap[i]?) ∧ (v'.ownBlock = v.ownBlock ∨ v'.ownBlock = some w.heap.size) ∧ (∀ C w0, Below C w0 w → C ≤ B → Below C w0 w') := by
  obtain ⟨i, z, hi, hz, h1, h2, h3⟩ := elI.hi
  have hsrc := hs.src (c := c) elI
  have hsrc2 : Src Try.prog i.size 28 (.slice x Y.length c) Y.length (Y.map intV) w := by rw [h1]; exact hsrc
  have hn : ∀ a : Option Addr, ∀ cap, (Builtin.firstCells i.size P.length (.slice a P.length cap)).run Try.prog w.drew = .ok (P.map intV).toArray w.drew → ∀ hv : v = .slice a P.length cap, cap < P.length + Y.length → cap ≤ maxLen →
      ∃ v' w', (Builtin.append_ #[28, 28] ty #[v, .slice x Y.length c]).run Try.prog w = .ok v' w' ∧ ownQ w' B v' (P ++ Y) ∧ w.heap.size ≤ w'.heap.size ∧ (∀ i, i < w.heap.size → v.ownBlock ≠ some i → w'.heap[i]? = w.heap[i]?) ∧ (v'.ownBlock = v.ownBlock ∨ v'.ownBlock = some w.heap.size) ∧ (∀ C w0, Below C w0 w → C ≤ B → Below C w0 w') := by
    intro a cap hold hv hg hcm
    have hby : (P.length + Y.length) * i.bytes ≤ 140737488355328 := by rw [h2]; omega
    have hr := run_append_grow_src (P := Try.prog) w 28 28 ty 3 i z elI.ht hi hz a P.length cap (P.map intV) hold (.slice x Y.length c) Y.length (Y.map intV) hsrc2 (by omega) (by omega) (growslice_fits (by omega) hby)
    have hge := grownCap_ge w (P.length + Y.length) cap 3
    have hcm2 : grownCap w (P.length + Y.length) cap 3 ≤ maxLen := grownCap_le_maxLen w _ cap 3 (by unfold maxLen; omega)
    have hb : Below w.heap.size w (w.drew.alloc (.cells ((P.map intV ++ Y.map intV).toArray ++ Builtin.zeroCells z.cells (grownCap w (P.length + Y.length) cap 3 - (P.length + Y.length))) 3)) := (Below.refl _ _).drew.alloc (Nat.le_refl _) _
    rw [hv]
    refine ⟨_, _, hr, .inr ⟨w.heap.size, 0, grownCap w (P.length + Y.length) cap 3, _, by rw [List.length_append], hB, heap_alloc_new w.drew _, by rw [List.length_append]; exact hge, hcm2, ?_, fun j hj => ?_⟩, hb.size, fun i hi _ => hb.block i hi, .inr rfl, fun C w0 h hC => h.trans (hb.mono (by omega))⟩
    · simp only [Array.size_append, List.size_toArray, List.length_append, List.length_map, size_zeroCells, h3]
      omega
    · have hj2 : j < (P.map intV ++ Y.map intV).length := by simpa using hj
      rw [Nat.zero_add, Array.getElem?_append_left (by simpa using hj2), List.getElem?_toArray, ← List.map_append, List.getElem?_map, List.getElem?_eq_getElem hj]
      rfl
  rcases hq with ⟨rfl, rfl⟩ | ⟨g, off, cap, cur, rfl, g2, g3, g4, g5, g6, g7⟩
  · by_cases h0 : Y = []
    · subst h0
      refine ⟨.slice none 0 0, w, ?_, .inl ⟨rfl, rfl⟩, Nat.le_refl _, fun _ _ _ => rfl, .inl rfl, fun _ _ h _ => h⟩
      cases x with
      | none => simp [Builtin.append_, run_underlying elI.ht, sizeOf, typeInfo, hi, Builtin.lenOf, Builtin.firstCells]
      | some ad => simp [Builtin.append_, run_underlying elI.ht, sizeOf, typeInfo, hi, Builtin.lenOf, Builtin.firstCells, loadCells, loadCellsFrom]
    · have hy : 0 < Y.length := List.length_pos_iff.2 h0
      exact hn none 0 (by simp [Builtin.firstCells]) rfl (by simp; omega) (by unfold maxLen; omega)
  · by_cases hroom : P.length + Y.length ≤ cap
    · have hc : ∀ j, j < (Y.map intV).length → (w.cell? ⟨g, off + P.length * i.size + j, none⟩).isSome = true := by
        intro j hj
        rw [List.length_map] at hj
        rw [h1, Nat.mul_one, cell_cur g3, Array.getElem?_eq_getElem (by omega)]
        rfl
      have hf : ∀ j, j < (Y.map intV).length → w.frozen? ⟨g, off + P.length * i.size + j, none⟩ = false := fun j _ => frozen_cur g3 _
      have hr := run_append_room_src (P := Try.prog) w 28 28 ty 3 i elI.ht hi g off P.length cap (.slice x Y.length c) Y.length (Y.map intV) hsrc2 hroom hc hf
      rw [h1, Nat.mul_one] at hr
      obtain ⟨cur', s1, s2, s3, s4, s5⟩ := setCells_row (e := 3) g (Y.map intV) (off + P.length) w cur g3 (by rw [List.length_map]; omega)
      refine ⟨_, _, hr, .inr ⟨g, off, cap, cur', by rw [List.length_append], g2, s1, by rw [List.length_append]; exact hroom, g5, by omega, fun j hj => ?_⟩, by omega, fun i hi hne => s4 i (fun e => hne (by rw [e]; rfl)), .inl rfl, fun C w0 h hC => h.trans ?_⟩
      · rw [s5, List.length_map]
        rw [List.length_append] at hj
        by_cases e : j < P.length
        · rw [if_neg (by omega), List.getElem_append_left e]
          exact g7 j e
        · rw [if_pos (by omega), List.getElem_append_right (by omega), show off + j - (off + P.length) = j - P.length from by omega, List.getElem?_map, List.getElem?_eq_getElem (by omega)]
          rfl
      · have hw : ∀ (vs : List Value) (o : Nat) (u : World), Below C w0 u → Below C w0 (u.setCells g o vs) := by
          intro vs
          induction vs with
          | nil => intro o u hu; exact hu
          | cons a r ih => intro o u hu; exact ih (o + 1) _ (hu.setCell (by exact Nat.le_trans hC g2) _)
        have h0 := hw (Y.map intV) (off + P.length) w h
        exact ⟨h0.os.trans h.os.symm, h0.tape.trans h.tape.symm, h0.output.trans h.output.symm, by omega, fun k hk => s4 k (by omega)⟩
    · have hold : (Builtin.firstCells i.size P.length (.slice (some ⟨g, off, none⟩) P.length cap)).run Try.prog w.drew = .ok (P.map intV).toArray w.drew := by
        rw [h1]
        exact run_firstCells_some (P := Try.prog) w.drew 1 P.length ⟨g, off, none⟩ P.length cap (P.map intV) (by simp) (fun j u hj => by
          rw [List.getElem?_map] at hj
          obtain ⟨z, hz, rfl⟩ := Option.map_eq_some_iff.1 hj
          obtain ⟨hl2, rfl⟩ := List.getElem?_eq_some_iff.1 hz
          rw [Addr.add_lit]
          exact (cell_cur (w := w.drew) g3 _).trans (g7 j hl2))
      exact hn (some ⟨g, off, none⟩) cap hold rfl (by omega) g5
theorem wpList_appendQ {w : World} {ops : Array Oper} {rest : List Oper} {o : Oper} {a : Act} {Q : Exit → Act → World → Prop} (hgd : o.guard = none) (s x : Operand) (ho : o.op = .call { callee := .builtin .append, args := #[s, x], argTypes := #[28, 28] }) (B : Nat) (v : Value) (P : List Int) (hsv : a.eval s = v) (hq : ownQ w B v P)
    (xa : Option Addr) (Y : List Int) (m c : Nat) (hm : m = Y.length) (hxv : a.eval x = .slice xa m c) (hs : SrcC w xa Y.length 1 (Y.map intV)) (hl : P.length + Y.length ≤ 16777216) (hB : B ≤ w.heap.size)
    (h : ∀ v' w', ownQ w' B v' (P ++ Y) → w.heap.size ≤ w'.heap.size → Hid (∀ i, i < w.heap.size → v.ownBlock ≠ some i → w'.heap[i]? = w.heap[i]?) → Hid (v'.ownBlock = v.ownBlock ∨ v'.ownBlock = some w.heap.size) → Hid (∀ C w0, Below C w0 w → C ≤ B → Below C w0 w') → wpList Try.prog ops Q rest (a.put o.dst v') w') : wpList Try.prog ops Q (o :: rest) a w := by
  subst hm
  obtain ⟨v', w', hr, h2, h3, h4, h5, h6⟩ := run_appendQ o.type w B v P hq xa Y c hs hl hB
  refine wpList_plain hgd fun K hK => ?_
  unfold Oper.wp execOp
  simp only [ho, resolve, invoke, builtin, Sem.run_bind, Sem.run_pure, Result.andThen_ok, List.map_toArray, List.map_cons, List.map_nil, hsv, hxv, hr]
  exact hK _ _ (h v' w' h2 h3 h4 h5 h6)

end Go.Proofs.Ytjhdnachbahbmaa
