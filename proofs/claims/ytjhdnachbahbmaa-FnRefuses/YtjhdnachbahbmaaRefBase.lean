/- Rows of operations and of answers that one makes oneself, as one who reads them has them. -/
import Derived.Test.YtjhdnachbahbmaaAnsRow
namespace Go.Proofs.Ytjhdnachbahbmaa
open Go.RowKit
set_option linter.unusedVariables false
set_option maxRecDepth 100000

def cellsQ (o : OpD) : List Value := [.int .i64 o.kind, .int .i64 o.a, .int .i64 o.b, .int .i64 o.c, .string (txt o.site)]
/-- A row of operations of one's own. -/
def OQ (X : World) (B : Nat) (v : Value) (n : Nat) (qs : List OpD) : Prop := qs.length = n ∧ X.ownsRow B 25 5 v n (qs.flatMap cellsQ)
theorem OQ.later {X Y : World} {B n : Nat} {v : Value} {qs : List OpD} (h : OQ X B v n qs) (hb : Below X.heap.size X Y) : OQ Y B v n qs := ⟨h.1, row_same h.2 (fun g hg => hb.block g (World.ownsRow.lt h.2 g hg).2)⟩
theorem OQ.rd {X : World} {B n : Nat} {v : Value} {qs : List OpD} (h : OQ X B v n qs) : ∃ a c, v = .slice a n c ∧ n ≤ c ∧ RdQ X a qs := by
  obtain ⟨hl, hr⟩ := h
  have hr0 := hr
  rcases hr.2 with ⟨rfl, h0⟩ | ⟨g, cap, cur, rfl, hB, hg, hc, -⟩
  · exact ⟨none, 0, by rw [h0], by omega, fun j hj => by omega⟩
  · refine ⟨some ⟨g, 0, none⟩, cap, rfl, hc, fun j hj => ⟨g, 0, rfl, (Array.getElem?_eq_some_iff.1 hg).1, ?_⟩⟩
    have key : ∀ k, k < 5 → X.cell? ⟨g, 0 + j * 5 + k, none⟩ = (cellsQ qs[j])[k]? := fun k hk => by
      rw [Nat.zero_add, World.ownsRow.cellAt hr0 _ (by omega), flat_at cellsQ 5 (fun _ => rfl) qs j k hj hk]
    exact ⟨key 0 (by omega), key 1 (by omega), key 2 (by omega), key 3 (by omega), key 4 (by omega)⟩
/-- A row that is new. -/
theorem OQ.new {w : World} {B : Nat} (hB : B ≤ w.heap.size) (qs : List OpD) (hq : qs.length ≤ 1000) : OQ (w.alloc (.cells (qs.flatMap cellsQ).toArray 25)) B (.slice (some ⟨w.heap.size, 0, none⟩) qs.length qs.length) qs.length qs := by
  have hl := flat_len cellsQ 5 (fun _ => rfl) qs
  refine ⟨rfl, hl, .inr ⟨w.heap.size, qs.length, (qs.flatMap cellsQ).toArray, rfl, hB, heap_alloc_new w _, Nat.le_refl _, by unfold maxLen; omega, by simpa using hl, ?_⟩⟩
  rw [← hl]
  exact List.take_length
/-- 'append(ops, .. )', ops a row of one's own. -/
theorem wpList_appendOps {w : World} {ops : Array Oper} {rest : List Oper} {o : Oper} {a : Act} {Q : Exit → Act → World → Prop} (hgd : o.guard = none) (s x : Operand)
    (ho : o.op = .call { callee := .builtin .append, args := #[s, x], argTypes := #[26, 26] }) (B : Nat) (v : Value) (n : Nat) (qs : List OpD) (hs : a.eval s = v) (hown : OQ w B v n qs)
    (g m : Nat) (rs : List OpD) (hm : rs.length = m) (hx : a.eval x = .slice (some ⟨g, 0, none⟩) m m) (hb : ∀ k, w.cell? ⟨g, k, none⟩ = (rs.flatMap cellsQ)[k]?) (hn : n ≤ 10000) (hm2 : m ≤ 1000) (w0 : World) (hb0 : Below B w0 w) (hB : B ≤ w0.heap.size)
    (h : ∀ v' w', OQ w' B v' (n + m) (qs ++ rs) → Below B w0 w' → w.heap.size ≤ w'.heap.size → Hid (∀ i, i < w.heap.size → v.ownBlock ≠ some i → w'.heap[i]? = w.heap[i]?) → wpList Try.prog ops Q rest (a.put o.dst v') w') : wpList Try.prog ops Q (o :: rest) a w := by
  obtain ⟨i0, hi, hz0, hz1, hz2⟩ := info_parts infoQ
  have hlt := World.ownsRow.lt hown.2
  have hsz := hb0.size
  refine wpList_append_own_at w hgd s x 26 ho B 25 i0 _ 5 48 Try.underlying26 hi hz0 hz1 hz2 rfl (by decide) v n (qs.flatMap cellsQ) hs hown.2 ⟨g, 0, none⟩ m m (rs.flatMap cellsQ) hx (by rw [flat_len cellsQ 5 (fun _ => rfl), hm]) ?_ ?_ ?_ ?_ (by omega) ?_
  · intro j u hj
    rw [Addr.add_lit, Nat.zero_add, hb j]
    exact hj
  · intro u hu
    obtain ⟨d, _, hu⟩ := List.mem_flatMap.1 hu
    simp only [cellsQ, List.mem_cons, List.not_mem_nil, or_false] at hu
    rcases hu with rfl | rfl | rfl | rfl | rfl <;> rfl
  · unfold maxLen; omega
  · omega
  · intro v' w' hown' hgrow _ hat
    refine h v' w' ⟨by rw [List.length_append, hown.1, hm], by rw [List.flatMap_append]; exact hown'⟩ ?_ hgrow.size (fun i hi hne => hgrow.block i hi (fun e => hne e.symm))
    exact ⟨hgrow.os.trans hb0.os, hgrow.tape.trans hb0.tape, hgrow.output.trans hb0.output, Nat.le_trans hb0.size hgrow.size, fun k hk => (hgrow.block k (by omega) (fun e => by have := (hlt k e.symm).1; omega)).trans (hb0.block k hk)⟩
theorem OQ.ints {X Y : World} {B C n : Nat} {v c : Value} {qs : List OpD} {zs : List Int} (h : OQ X B v n qs) (hz : ownI X C c zs) (hk : ∀ i, i < X.heap.size → v.ownBlock ≠ some i → Y.heap[i]? = X.heap[i]?) : ownI Y C c zs := row_same hz (fun g hg => hk g (World.ownsRow.lt hz g hg).2 (fun e => by
  obtain ⟨c1, h1⟩ := row_kind h.2 g e
  obtain ⟨c2, h2⟩ := row_kind hz g hg
  exact kind_ne h1 h2 (by decide) rfl))
theorem OQ.keep {X Y : World} {B C n : Nat} {v c : Value} {qs : List OpD} {zs : List Int} (h : OQ X B v n qs) (hz : ownI X C c zs) (hk : ∀ i, i < X.heap.size → c.ownBlock ≠ some i → Y.heap[i]? = X.heap[i]?) : OQ Y B v n qs := ⟨h.1, row_same h.2 (fun g hg => hk g (World.ownsRow.lt h.2 g hg).2 (fun e => by
  obtain ⟨c1, h1⟩ := row_kind h.2 g hg
  obtain ⟨c2, h2⟩ := row_kind hz g e
  exact kind_ne h1 h2 (by decide) rfl))⟩
theorem ownI_eight {w : World} {B : Nat} (hB : B ≤ w.heap.size) (zs : List Int) (h8 : zs.length ≤ 1000) : ownI (w.alloc (.cells (zs.map intV).toArray 3)) B (.slice (some ⟨w.heap.size, 0, none⟩) zs.length zs.length) zs := by
  refine ⟨by simp, .inr ⟨w.heap.size, zs.length, (zs.map intV).toArray, rfl, hB, heap_alloc_new w _, Nat.le_refl _, by unfold maxLen; omega, by simp, ?_⟩⟩
  have e : zs.length * 1 = (zs.map intV).toArray.toList.length := by simp
  rw [e]
  exact List.take_length
/-- What is read of a row of answers in the making. -/
theorem AR.cells {X : World} {B : Nat} {v : Value} {ps : List (AnsD × Option Addr × Nat)} (h : AR X B v ps) : ∃ a c, v = .slice a ps.length c ∧ ∀ (j : Nat) (hj : j < ps.length), ∃ g, a = some ⟨g, 0, none⟩ ∧ g < X.heap.size ∧ X.cell? ⟨g, j * 3, none⟩ = some (.int .i64 ps[j].1.code) := by
  have hr := h.row
  rcases hr.2 with ⟨rfl, h0⟩ | ⟨g, cap, cur, rfl, hB, hg, hc, -⟩
  · exact ⟨none, 0, by rw [h0], fun j hj => by omega⟩
  · refine ⟨some ⟨g, 0, none⟩, cap, rfl, fun j hj => ⟨g, rfl, (Array.getElem?_eq_some_iff.1 hg).1, ?_⟩⟩
    have key := flat_at cellsA 3 (fun _ => rfl) ps j 0 hj (by omega)
    rw [Nat.add_zero] at key
    rw [World.ownsRow.cellAt hr _ (by omega), key]
    rfl

end Go.Proofs.Ytjhdnachbahbmaa
