/- append onto a new, empty row, whatever slice is appended; slices.Clone at numbers, texts, handles and objects. -/
import Derived.Test.YtjhceoejblmihaaCanHWalks
import Derived.Deep.AppendSrc
import Derived.Lib.SliceRun
namespace Go.Proofs.Ytjhceoejblmihaa
open Go.RowKit
set_option linter.unusedVariables false
set_option maxRecDepth 100000

/-- A slice type t, its elements' type e, their size in cells and in bytes. -/
structure El (t e : TypeId) (size bytes : Nat) : Prop where
  ht : Try.prog.underlying t = some (.slice e)
  hi : ∃ i z, Try.prog.info? e = some i ∧ i.zero = some z ∧ i.size = size ∧ i.bytes = bytes ∧ z.cells.size = size
  pos : 0 < size
theorem elI : El 24 3 1 8 := ⟨Try.underlying24, by obtain ⟨i, h1, h2, h3, h4⟩ := info_parts infoI; exact ⟨i, _, h1, h2, h3, h4, rfl⟩, by decide⟩
theorem elS : El 25 9 1 16 := ⟨Try.underlying25, by obtain ⟨i, h1, h2, h3, h4⟩ := info_parts infoS; exact ⟨i, _, h1, h2, h3, h4, rfl⟩, by decide⟩
theorem elW : El 33 98 2 16 := ⟨Try.underlying33, by obtain ⟨i, h1, h2, h3, h4⟩ := info_parts infoW; exact ⟨i, _, h1, h2, h3, h4, rfl⟩, by decide⟩
theorem elO : El 32 61 8 80 := ⟨Try.underlying32, by obtain ⟨i, h1, h2, h3, h4⟩ := info_parts infoO; exact ⟨i, _, h1, h2, h3, h4, rfl⟩, by decide⟩

/-- What a slice that is read yields: m elements of the given cells. -/
structure SrcC (w : World) (x : Option Addr) (m size : Nat) (news : List Value) : Prop where
  len : news.length = m * size
  at_ : ∀ j u, news[j]? = some u → ∃ ad, x = some ad ∧ w.cell? (ad.add j) = some u
  one : ∀ u ∈ news, u.oneCell' = true
theorem SrcC.none_ {w : World} {m size : Nat} {news : List Value} (h : SrcC w none m size news) (hs : 0 < size) : m = 0 ∧ news = [] := by
  have hn : news = [] := by
    cases news with
    | nil => rfl
    | cons u r => obtain ⟨ad, h1, _⟩ := h.at_ 0 u rfl; cases h1
  subst hn
  have := h.len
  simp only [List.length_nil] at this
  rcases Nat.mul_eq_zero.1 this.symm with h1 | h1
  · exact ⟨h1, rfl⟩
  · omega
theorem SrcC.src {w : World} {x : Option Addr} {m size c : Nat} {news : List Value} {t e : TypeId} {bytes : Nat} (h : SrcC w x m size news) (el : El t e size bytes) : Src Try.prog size t (.slice x m c) m news w := by
  cases x with
  | none => obtain ⟨rfl, rfl⟩ := h.none_ el.pos; exact Src.ofNil w el.ht c
  | some ad => exact Src.ofSlice w el.ht ad m c news h.len (fun j u hj => by obtain ⟨ad2, h1, h2⟩ := h.at_ j u hj; injection h1 with h1; rw [h1]; exact h2) h.one
theorem SrcC.later {w w' : World} {x : Option Addr} {m size : Nat} {news : List Value} (h : SrcC w x m size news) (hb : Below w.heap.size w w') : SrcC w' x m size news :=
  ⟨h.len, fun j u hj => by
    obtain ⟨ad, h1, h2⟩ := h.at_ j u hj
    exact ⟨ad, h1, (hb.cell (p := ad.add j) (World.block_lt_of_cell? w _ h2)).trans h2⟩, h.one⟩

theorem run_append_fresh {t e : TypeId} {size bytes : Nat} (el : El t e size bytes) (ty : TypeId) (w : World) (g B : Nat) (hg : w.heap[g]? = some (.cells #[] e (0, 0))) (hB : B ≤ g) (x : Option Addr) (m c : Nat) (news : List Value)
    (hs : SrcC w x m size news) (hm : m ≤ 16777216) (hby : m * bytes ≤ 140737488355328) :
    ∃ v' w', (Builtin.append_ #[t, t] ty #[.slice (some ⟨g, 0, none⟩) 0 0, .slice x m c]).run Try.prog w = .ok v' w' ∧ w'.ownsRow B e size v' m news ∧ Below w.heap.size w w' ∧ ∃ g', v'.ownBlock = some g' ∧ (g' = g ∨ g' = w.heap.size) := by
  obtain ⟨i, z, hi, hz, h1, h2, h3⟩ := el.hi
  have hgl : g < w.heap.size := (Array.getElem?_eq_some_iff.1 hg).1
  have hsrc := hs.src (c := c) el
  by_cases h0 : m = 0
  · subst h0
    have hn : news = [] := List.eq_nil_of_length_eq_zero (by have := hs.len; omega)
    subst hn
    subst h1
    have hr := run_append_room_src (P := Try.prog) w t t ty e i el.ht hi g 0 0 0 (.slice x 0 c) 0 [] hsrc (by omega) (fun j hj => by simp at hj) (fun j hj => by simp at hj)
    exact ⟨_, _, hr, ⟨by simp, .inr ⟨g, 0, #[], rfl, hB, hg, Nat.le_refl _, by unfold maxLen; omega, by simp, by simp⟩⟩, Below.refl _ _, g, rfl, .inl rfl⟩
  · subst h1
    subst h2
    have hold : (Builtin.firstCells i.size 0 (.slice (some ⟨g, 0, none⟩) 0 0)).run Try.prog w.drew = .ok ([] : List Value).toArray w.drew := by
      simp [Builtin.firstCells, loadCells, loadCellsFrom]
    have hnc : Builtin.nextslicecap (0 + m) 0 = m := by unfold Builtin.nextslicecap; rw [if_pos (by omega)]; omega
    have hr := run_append_grow_src (P := Try.prog) w t t ty e i z el.ht hi hz (some ⟨g, 0, none⟩) 0 0 [] hold (.slice x m c) m news hsrc (by omega) (by omega) (by rw [hnc]; omega)
    simp only [Nat.zero_add, List.nil_append] at hr
    have hge := grownCap_ge w m 0 e
    have hcm : grownCap w m 0 e ≤ maxLen := grownCap_le_maxLen w m 0 e (by unfold maxLen; omega)
    refine ⟨_, _, hr, ⟨hs.len, .inr ⟨w.heap.size, _, _, rfl, by omega, heap_alloc_new w.drew _, hge, hcm, ?_, ?_⟩⟩, (Below.refl _ _).drew.alloc (Nat.le_refl _) _, _, rfl, .inr rfl⟩
    · simp only [Array.size_append, List.size_toArray, size_zeroCells, h3, hs.len, ← Nat.add_mul]
      congr 1
      omega
    · rw [Array.toList_append, ← hs.len]
      exact List.take_left

theorem wp_append_fresh {t e : TypeId} {size bytes : Nat} (el : El t e size bytes) {w : World} {o : Oper} {a : Act} {K : Act → World → Prop} {Q : Exit → Act → World → Prop} (s x : Operand)
    (ho : o.op = .call { callee := .builtin .append, args := #[s, x], argTypes := #[t, t] }) (g B : Nat) (hg : w.heap[g]? = some (.cells #[] e (0, 0))) (hB : B ≤ g) (xa : Option Addr) (m c : Nat) (news : List Value)
    (hsv : a.eval s = .slice (some ⟨g, 0, none⟩) 0 0) (hxv : a.eval x = .slice xa m c) (hs : SrcC w xa m size news) (hm : m ≤ 16777216) (hby : m * bytes ≤ 140737488355328)
    (h : ∀ v' w', w'.ownsRow B e size v' m news → Below w.heap.size w w' → Hid (∃ g', v'.ownBlock = some g' ∧ (g' = g ∨ g' = w.heap.size)) → K (a.put o.dst v') w') : o.wp Try.prog a w K Q := by
  obtain ⟨v', w', hr, h2, h3, h4⟩ := run_append_fresh el o.type w g B hg hB xa m c news hs hm hby
  unfold Oper.wp execOp
  simp only [ho, resolve, invoke, builtin, Sem.run_bind, Sem.run_pure, Result.andThen_ok, List.map_toArray, List.map_cons, List.map_nil, hsv, hxv, hr]
  exact h v' w' h2 h3 h4
theorem wpList_append_fresh {t e : TypeId} {size bytes : Nat} (el : El t e size bytes) {w : World} {ops : Array Oper} {rest : List Oper} {o : Oper} {a : Act} {Q : Exit → Act → World → Prop} (hgd : o.guard = none) (s x : Operand)
    (ho : o.op = .call { callee := .builtin .append, args := #[s, x], argTypes := #[t, t] }) (g B : Nat) (hg : w.heap[g]? = some (.cells #[] e (0, 0))) (hB : B ≤ g) (xa : Option Addr) (m c : Nat) (news : List Value)
    (hsv : a.eval s = .slice (some ⟨g, 0, none⟩) 0 0) (hxv : a.eval x = .slice xa m c) (hs : SrcC w xa m size news) (hm : m ≤ 16777216) (hby : m * bytes ≤ 140737488355328)
    (h : ∀ v' w', w'.ownsRow B e size v' m news → Below w.heap.size w w' → Hid (∃ g', v'.ownBlock = some g' ∧ (g' = g ∨ g' = w.heap.size)) → wpList Try.prog ops Q rest (a.put o.dst v') w') : wpList Try.prog ops Q (o :: rest) a w :=
  wpList_plain hgd fun _ hK => wp_append_fresh el s x ho g B hg hB xa m c news hsv hxv hs hm hby fun v' w' h2 h3 h4 => hK _ _ (h v' w' h2 h3 h4)
theorem fresh_at (w : World) (e : TypeId) : (w.alloc (.cells #[] e)).heap[w.heap.size]? = some (.cells #[] e (0, 0)) := heap_alloc_new w _

/-- slices.Clone, at each of the four kinds. -/
theorem cloneI_calls (w : World) (a : Option Addr) (m c : Nat) (news : List Value) (hs : SrcC w a m 1 news) (hm : m ≤ 16777216) :
    Calls Try.prog 80 #[.slice a m c] w fun e w' => ∃ x, e = .returned x ∧ w'.ownsRow w.heap.size 3 1 x m news ∧ Below w.heap.size w w' := by
  cases a with
  | none =>
    obtain ⟨rfl, rfl⟩ := hs.none_ (by omega)
    have hq : ∀ X : World, (binOp .eql 24 (.slice none 0 c) (.slice none 0 0)).run Try.prog X = .ok (.bool true) X := fun X => Lib.run_eql_slice_nil X _ _ none 0 c 0 0 elI.ht
    go_enter Try.func80, Try.ntmps80
    go_wp2
    go_ret
    exact ⟨_, rfl, World.ownsRow_nil _ _ _ _, Below.refl _ _⟩
  | some ad =>
    have HS : Hid (SrcC w (some ad) m 1 news) := hs
    clear hs
    have hq : ∀ X : World, (binOp .eql 24 (.slice (some ad) m c) (.slice none 0 0)).run Try.prog X = .ok (.bool false) X := fun X => Lib.run_eql_slice_nil X _ _ (some ad) m c 0 0 elI.ht
    go_enter Try.func80, Try.ntmps80
    go_wp2_with (at_builtin; refine wpList_append_fresh elI rfl _ _ rfl w.heap.size w.heap.size (fresh_at w _) (Nat.le_refl _) (some ad) m c news rfl rfl ?hs hm (by omega) ?_)
    case hs => exact HS.out.later ((Below.refl _ _).alloc (Nat.le_refl _) _)
    intro v' w' h1 h2 _
    have B2 : Below w.heap.size w w' := ((Below.refl _ _).alloc (Nat.le_refl _) _).trans (h2.mono (by simp))
    go_wp2
    go_ret
    exact ⟨_, rfl, h1, B2⟩
theorem cloneS_calls (w : World) (a : Option Addr) (m c : Nat) (news : List Value) (hs : SrcC w a m 1 news) (hm : m ≤ 16777216) :
    Calls Try.prog 103 #[.slice a m c] w fun e w' => ∃ x, e = .returned x ∧ w'.ownsRow w.heap.size 9 1 x m news ∧ Below w.heap.size w w' := by
  cases a with
  | none =>
    obtain ⟨rfl, rfl⟩ := hs.none_ (by omega)
    have hq : ∀ X : World, (binOp .eql 25 (.slice none 0 c) (.slice none 0 0)).run Try.prog X = .ok (.bool true) X := fun X => Lib.run_eql_slice_nil X _ _ none 0 c 0 0 elS.ht
    go_enter Try.func103, Try.ntmps103
    go_wp2
    go_ret
    exact ⟨_, rfl, World.ownsRow_nil _ _ _ _, Below.refl _ _⟩
  | some ad =>
    have HS : Hid (SrcC w (some ad) m 1 news) := hs
    clear hs
    have hq : ∀ X : World, (binOp .eql 25 (.slice (some ad) m c) (.slice none 0 0)).run Try.prog X = .ok (.bool false) X := fun X => Lib.run_eql_slice_nil X _ _ (some ad) m c 0 0 elS.ht
    go_enter Try.func103, Try.ntmps103
    go_wp2_with (at_builtin; refine wpList_append_fresh elS rfl _ _ rfl w.heap.size w.heap.size (fresh_at w _) (Nat.le_refl _) (some ad) m c news rfl rfl ?hs hm (by omega) ?_)
    case hs => exact HS.out.later ((Below.refl _ _).alloc (Nat.le_refl _) _)
    intro v' w' h1 h2 _
    have B2 : Below w.heap.size w w' := ((Below.refl _ _).alloc (Nat.le_refl _) _).trans (h2.mono (by simp))
    go_wp2
    go_ret
    exact ⟨_, rfl, h1, B2⟩
theorem cloneW_calls (w : World) (a : Option Addr) (m c : Nat) (news : List Value) (hs : SrcC w a m 2 news) (hm : m ≤ 16777216) :
    Calls Try.prog 102 #[.slice a m c] w fun e w' => ∃ x, e = .returned x ∧ w'.ownsRow w.heap.size 98 2 x m news ∧ Below w.heap.size w w' := by
  cases a with
  | none =>
    obtain ⟨rfl, rfl⟩ := hs.none_ (by omega)
    have hq : ∀ X : World, (binOp .eql 33 (.slice none 0 c) (.slice none 0 0)).run Try.prog X = .ok (.bool true) X := fun X => Lib.run_eql_slice_nil X _ _ none 0 c 0 0 elW.ht
    go_enter Try.func102, Try.ntmps102
    go_wp2
    go_ret
    exact ⟨_, rfl, World.ownsRow_nil _ _ _ _, Below.refl _ _⟩
  | some ad =>
    have HS : Hid (SrcC w (some ad) m 2 news) := hs
    clear hs
    have hq : ∀ X : World, (binOp .eql 33 (.slice (some ad) m c) (.slice none 0 0)).run Try.prog X = .ok (.bool false) X := fun X => Lib.run_eql_slice_nil X _ _ (some ad) m c 0 0 elW.ht
    go_enter Try.func102, Try.ntmps102
    go_wp2_with (at_builtin; refine wpList_append_fresh elW rfl _ _ rfl w.heap.size w.heap.size (fresh_at w _) (Nat.le_refl _) (some ad) m c news rfl rfl ?hs hm (by omega) ?_)
    case hs => exact HS.out.later ((Below.refl _ _).alloc (Nat.le_refl _) _)
    intro v' w' h1 h2 _
    have B2 : Below w.heap.size w w' := ((Below.refl _ _).alloc (Nat.le_refl _) _).trans (h2.mono (by simp))
    go_wp2
    go_ret
    exact ⟨_, rfl, h1, B2⟩
theorem cloneO_calls (w : World) (a : Option Addr) (m c : Nat) (news : List Value) (hs : SrcC w a m 8 news) (hm : m ≤ 16777216) :
    Calls Try.prog 101 #[.slice a m c] w fun e w' => ∃ x, e = .returned x ∧ w'.ownsRow w.heap.size 61 8 x m news ∧ Below w.heap.size w w' := by
  cases a with
  | none =>
    obtain ⟨rfl, rfl⟩ := hs.none_ (by omega)
    have hq : ∀ X : World, (binOp .eql 32 (.slice none 0 c) (.slice none 0 0)).run Try.prog X = .ok (.bool true) X := fun X => Lib.run_eql_slice_nil X _ _ none 0 c 0 0 elO.ht
    go_enter Try.func101, Try.ntmps101
    go_wp2
    go_ret
    exact ⟨_, rfl, World.ownsRow_nil _ _ _ _, Below.refl _ _⟩
  | some ad =>
    have HS : Hid (SrcC w (some ad) m 8 news) := hs
    clear hs
    have hq : ∀ X : World, (binOp .eql 32 (.slice (some ad) m c) (.slice none 0 0)).run Try.prog X = .ok (.bool false) X := fun X => Lib.run_eql_slice_nil X _ _ (some ad) m c 0 0 elO.ht
    go_enter Try.func101, Try.ntmps101
    go_wp2_with (at_builtin; refine wpList_append_fresh elO rfl _ _ rfl w.heap.size w.heap.size (fresh_at w _) (Nat.le_refl _) (some ad) m c news rfl rfl ?hs hm (by omega) ?_)
    case hs => exact HS.out.later ((Below.refl _ _).alloc (Nat.le_refl _) _)
    intro v' w' h1 h2 _
    have B2 : Below w.heap.size w w' := ((Below.refl _ _).alloc (Nat.le_refl _) _).trans (h2.mono (by simp))
    go_wp2
    go_ret
    exact ⟨_, rfl, h1, B2⟩

end Go.Proofs.Ytjhceoejblmihaa
