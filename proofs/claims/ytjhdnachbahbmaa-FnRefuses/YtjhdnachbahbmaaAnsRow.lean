/- A row of answers in the making, each with a row of its own for what was freed. -/
import Derived.Test.YtjhdnachbahbmaaAnssWalks
import Derived.Maps.AppendAt
namespace Go.Proofs.Ytjhdnachbahbmaa
open Go.RowKit
set_option linter.unusedVariables false
set_option maxRecDepth 100000

/-- An answer and the row of what was freed: where it lies, how far it could grow. -/
def cellsA (p : AnsD × Option Addr × Nat) : List Value := [.int .i64 p.1.code, .int .i64 p.1.val, .slice p.2.1 p.1.freed.length p.2.2]
def freedV (p : AnsD × Option Addr × Nat) : Value := .slice p.2.1 p.1.freed.length p.2.2
/-- A row of answers in the making. -/
structure AR (X : World) (B : Nat) (v : Value) (ps : List (AnsD × Option Addr × Nat)) : Prop where
  row : X.ownsRow B 38 3 v ps.length (ps.flatMap cellsA)
  each : ∀ p ∈ ps, ownI X B (freedV p) p.1.freed
  ap : ps.Pairwise (fun p q => ∀ g, (freedV p).ownBlock = some g → (freedV q).ownBlock ≠ some g)
theorem own3_later {X Y : World} {B n : Nat} {v : Value} {xs : List Value} {t : TypeId} (h : X.ownsRow B t 3 v n xs) (hb : Below X.heap.size X Y) : Y.ownsRow B t 3 v n xs := row_same h (fun g hg => hb.block g (h.lt g hg).2)
theorem AR.later {X Y : World} {B : Nat} {v : Value} {ps : List (AnsD × Option Addr × Nat)} (h : AR X B v ps) (hb : Below X.heap.size X Y) : AR Y B v ps :=
  ⟨own3_later h.row hb, fun p hp => ownI_later (h.each p hp) hb, h.ap⟩
theorem AR.same {X Y : World} {B : Nat} {v : Value} {ps : List (AnsD × Option Addr × Nat)} (h : AR X B v ps) (hs : ∀ g : Nat, (∃ (c : Array Value) (t : TypeId), X.heap[g]? = some (Obj.cells c t (0, 0)) ∧ t ≠ 33) → Y.heap[g]? = X.heap[g]?) : AR Y B v ps :=
  ⟨row_same h.row (fun g hg => by obtain ⟨cur, hc⟩ := row_kind h.row g hg; exact hs g ⟨cur, _, hc, by decide⟩), fun p hp => row_same (h.each p hp) (fun g hg => by obtain ⟨cur, hc⟩ := row_kind (h.each p hp) g hg; exact hs g ⟨cur, _, hc, by decide⟩), h.ap⟩
theorem ar_nil (X : World) (B : Nat) : AR X B (.slice none 0 0) [] := ⟨World.ownsRow_nil X B 38 3, fun p hp => (nomatch hp), List.Pairwise.nil⟩
/-- 'append(answers, a)', answers a row of one's own. -/
theorem wpList_appendAn {w : World} {ops : Array Oper} {rest : List Oper} {o : Oper} {a : Act} {Q : Exit → Act → World → Prop} (hgd : o.guard = none) (s x : Operand)
    (ho : o.op = .call { callee := .builtin .append, args := #[s, x], argTypes := #[34, 34] }) (B : Nat) (v : Value) (n : Nat) (xs : List Value) (hs : a.eval s = v) (hown : w.ownsRow B 38 3 v n xs)
    (g : Nat) (p : AnsD × Option Addr × Nat) (hx : a.eval x = .slice (some ⟨g, 0, none⟩) 1 1) (hb : ∀ k, w.cell? ⟨g, k, none⟩ = (cellsA p)[k]?) (hn : n ≤ 1677720) (hB : B ≤ w.heap.size)
    (h : ∀ v' w', w'.ownsRow B 38 3 v' (n + 1) (xs ++ cellsA p) → w.heap.size ≤ w'.heap.size → Hid (∀ i, i < w.heap.size → v.ownBlock ≠ some i → w'.heap[i]? = w.heap[i]?) → Hid (v'.ownBlock = v.ownBlock ∨ v'.ownBlock = some w.heap.size) → Hid (∀ C w0, Below C w0 w → C ≤ B → Below C w0 w') → wpList Try.prog ops Q rest (a.put o.dst v') w') : wpList Try.prog ops Q (o :: rest) a w := by
  obtain ⟨i0, hi, hz0, hz1, hz2⟩ := info_parts infoY
  have hlt := World.ownsRow.lt hown
  refine wpList_append_own_at w hgd s x 34 ho B 38 i0 _ 3 40 Try.underlying34 hi hz0 hz1 hz2 rfl (by decide) v n xs hs hown ⟨g, 0, none⟩ 1 1 (cellsA p) hx rfl ?_ ?_ ?_ ?_ hB ?_
  · intro j u hj
    rw [Addr.add_lit, Nat.zero_add, hb j]
    exact hj
  · intro u hu
    simp only [cellsA, List.mem_cons, List.not_mem_nil, or_false] at hu
    rcases hu with rfl | rfl | rfl <;> rfl
  · unfold maxLen; omega
  · omega
  · intro v' w' hown' hgrow _ hat
    refine h v' w' hown' hgrow.size (fun i hi hne => hgrow.block i hi (fun e => hne e.symm)) hat (fun C w0 hb hC => ?_)
    exact ⟨hgrow.os.trans hb.os, hgrow.tape.trans hb.tape, hgrow.output.trans hb.output, Nat.le_trans hb.size hgrow.size, fun k hk => (hgrow.block k (by omega) (fun e => by have := (hlt k e.symm).1; omega)).trans (hb.block k hk)⟩
/-- One more answer stands in the row. -/
theorem AR.app {U w' : World} {B : Nat} {v v' : Value} {ps : List (AnsD × Option Addr × Nat)} {p : AnsD × Option Addr × Nat} (h : AR U B v ps) (hp : ownI U B (freedV p) p.1.freed) (hap : ∀ q ∈ ps, ∀ g, (freedV q).ownBlock = some g → (freedV p).ownBlock ≠ some g) (h1 : w'.ownsRow B 38 3 v' (ps.length + 1) (ps.flatMap cellsA ++ cellsA p)) (h3 : ∀ i, i < U.heap.size → v.ownBlock ≠ some i → w'.heap[i]? = U.heap[i]?) :
    AR w' B v' (ps ++ [p]) := by
  have keep : ∀ q, ownI U B (freedV q) q.1.freed → ownI w' B (freedV q) q.1.freed := fun q hq => row_same hq (fun g hg => by
    obtain ⟨cur, hc⟩ := row_kind hq g hg
    exact h3 g (Array.getElem?_eq_some_iff.1 hc).1 (fun e => by
      obtain ⟨c2, hc2⟩ := row_kind h.row g e
      exact kind_ne hc hc2 (by decide) rfl))
  refine ⟨?_, fun q hq => ?_, ?_⟩
  · rw [List.length_append, List.length_singleton, List.flatMap_append]
    simpa using h1
  · rcases List.mem_append.1 hq with hq | hq
    · exact keep q (h.each q hq)
    · obtain rfl := List.mem_singleton.1 hq
      exact keep q hp
  · rw [List.pairwise_append]
    refine ⟨h.ap, List.pairwise_singleton _ _, fun q hq r hr => ?_⟩
    obtain rfl := List.mem_singleton.1 hr
    exact hap q hq

end Go.Proofs.Ytjhdnachbahbmaa
