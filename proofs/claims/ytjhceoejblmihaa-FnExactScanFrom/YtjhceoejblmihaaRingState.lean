/- What holds while a trial is turned: its two rows, what waits, all apart, and the rest as it was. -/
import Derived.Test.YtjhceoejblmihaaRingMath
import Derived.Test.YtjhceoejblmihaaLenV
import Derived.Test.YtjhceoejblmihaaTrialNew
namespace Go.Proofs.Ytjhceoejblmihaa
open Go.RowKit
set_option linter.unusedVariables false
set_option maxRecDepth 100000

structure BI (W wr : World) (B ga gb c d : Nat) (T : TrialD) (vq : Value) (todo : List Int) : Prop where
  bel : Below B W wr
  oth : ∀ g, g < W.heap.size → g ≠ ga → g ≠ gb → wr.heap[g]? = W.heap[g]?
  x : ownI wr B (.slice (some ⟨ga, 0, none⟩) 8 c) T.counts
  y : ownI wr B (.slice (some ⟨gb, 0, none⟩) 8 d) T.colors
  ne : ga ≠ gb
  la : ga < W.heap.size
  lb : gb < W.heap.size
  hB : B ≤ W.heap.size
  q : ownI wr W.heap.size vq todo
theorem BI.eight {W wr : World} {B ga gb c d : Nat} {T : TrialD} {vq : Value} {todo : List Int} (h : BI W wr B ga gb c d T vq todo) : Eight T := ⟨(own_len h.x).symm, (own_len h.y).symm⟩
theorem bi_later {W wr X : World} {B ga gb c d : Nat} {T : TrialD} {vq : Value} {todo : List Int} (h : BI W wr B ga gb c d T vq todo) (hb : Below wr.heap.size wr X) : BI W X B ga gb c d T vq todo :=
  have hs := h.bel.size
  ⟨h.bel.trans (hb.mono (Nat.le_trans h.hB hs)), fun g h1 h2 h3 => (hb.block g (by omega)).trans (h.oth g h1 h2 h3), ownI_later h.x hb, ownI_later h.y hb, h.ne, h.la, h.lb, h.hB, ownI_later h.q hb⟩
/-- A count is turned. -/
theorem bi_count {W wr : World} {B ga gb c d : Nat} {T : TrialD} {vq : Value} {todo : List Int} (h : BI W wr B ga gb c d T vq todo) (i : Nat) (z : Int) : BI W (wr.setCell ⟨ga, i, none⟩ (.int .i64 z)) B ga gb c d ⟨T.counts.set i z, T.colors⟩ vq todo := by
  have oth : ∀ g, g ≠ ga → (wr.setCell ⟨ga, i, none⟩ (.int .i64 z)).heap[g]? = wr.heap[g]? := fun g hg => heap_setCell_other _ _ _ _ (by exact hg)
  have hga := (ownI_lt h.x ga rfl).1
  refine ⟨h.bel.setCell hga _, fun g h1 h2 h3 => (oth g h2).trans (h.oth g h1 h2 h3), ownI_set h.x (own_len h.x) i z, ownI_same h.y (fun g hg => oth g (fun e => ?_)), h.ne, h.la, h.lb, h.hB, ownI_same h.q (fun g hg => oth g (fun e => ?_))⟩
  · have : gb = g := by simpa [Value.ownBlock] using hg
    exact h.ne (by omega)
  · have := (ownI_lt h.q g hg).1
    have := h.la
    omega
/-- A color is turned. -/
theorem bi_color {W wr : World} {B ga gb c d : Nat} {T : TrialD} {vq : Value} {todo : List Int} (h : BI W wr B ga gb c d T vq todo) (i : Nat) (z : Int) : BI W (wr.setCell ⟨gb, i, none⟩ (.int .i64 z)) B ga gb c d ⟨T.counts, T.colors.set i z⟩ vq todo := by
  have oth : ∀ g, g ≠ gb → (wr.setCell ⟨gb, i, none⟩ (.int .i64 z)).heap[g]? = wr.heap[g]? := fun g hg => heap_setCell_other _ _ _ _ (by exact hg)
  have hgb := (ownI_lt h.y gb rfl).1
  refine ⟨h.bel.setCell hgb _, fun g h1 h2 h3 => (oth g h3).trans (h.oth g h1 h2 h3), ownI_same h.x (fun g hg => oth g (fun e => ?_)), ownI_set h.y (own_len h.y) i z, h.ne, h.la, h.lb, h.hB, ownI_same h.q (fun g hg => oth g (fun e => ?_))⟩
  · have : ga = g := by simpa [Value.ownBlock] using hg
    exact h.ne (by omega)
  · have := (ownI_lt h.q g hg).1
    have := h.lb
    omega
/-- The last of a row is cut off. -/
theorem ownI_cut {w : World} {B n c : Nat} {a : Option Addr} {zs : List Int} {z : Int} (h : ownI w B (.slice a (n + 1) c) (zs ++ [z])) : ownI w B (.slice a n c) zs := by
  have hl := own_len h
  rw [List.length_append, List.length_singleton] at hl
  obtain rfl : n = zs.length := by omega
  rcases h with ⟨h1, ⟨h2, h3⟩ | ⟨g, cap, cur, h2, h3, h4, h5, h6, h7, h8⟩⟩
  · simp at h3
  · injection h2 with e1 e2 e3
    subst e1 e3
    rw [List.length_append, List.length_singleton] at h5 h8
    refine ⟨by simp, .inr ⟨g, c, cur, rfl, h3, h4, by omega, h6, h7, ?_⟩⟩
    have h9 := congrArg (List.take zs.length) h8
    rw [List.take_take, Nat.mul_one, Nat.min_eq_left (by omega), List.map_append] at h9
    rw [Nat.mul_one, h9]
    have e : (zs.map intV).length = zs.length := List.length_map ..
    rw [← e]
    exact List.take_left
theorem bi_pop {W wr : World} {B ga gb c d : Nat} {T : TrialD} {n qc : Nat} {qa : Option Addr} {rest : List Int} {k : Int} (h : BI W wr B ga gb c d T (.slice qa (n + 1) qc) (rest ++ [k])) : BI W wr B ga gb c d T (.slice qa n qc) rest :=
  ⟨h.bel, h.oth, h.x, h.y, h.ne, h.la, h.lb, h.hB, ownI_cut h.q⟩
/-- Another row waits. -/
theorem bi_push {W wr X : World} {B ga gb c d : Nat} {T : TrialD} {vq vq' : Value} {todo todo' : List Int} (h : BI W wr B ga gb c d T vq todo) (oth : ∀ i, i < wr.heap.size → vq.ownBlock ≠ some i → X.heap[i]? = wr.heap[i]?) (hbel : ∀ C w0, Below C w0 wr → C ≤ W.heap.size → Below C w0 X) (hq : ownI X W.heap.size vq' todo') : BI W X B ga gb c d T vq' todo' := by
  have hs := h.bel.size
  have far : ∀ g, g < W.heap.size → X.heap[g]? = wr.heap[g]? := fun g hg => oth g (by omega) (fun e => by have := (ownI_lt h.q g e).1; omega)
  refine ⟨hbel B W h.bel h.hB, fun g h1 h2 h3 => (far g h1).trans (h.oth g h1 h2 h3), ownI_same h.x (fun g hg => far g ?_), ownI_same h.y (fun g hg => far g ?_), h.ne, h.la, h.lb, h.hB, hq⟩
  · have : ga = g := by simpa [Value.ownBlock] using hg
    have := h.la
    omega
  · have : gb = g := by simpa [Value.ownBlock] using hg
    have := h.lb
    omega
theorem bi_cells {W wr : World} {B ga gb c d : Nat} {T : TrialD} {vq : Value} {todo : List Int} (h : BI W wr B ga gb c d T vq todo) (i : Nat) (hi : i < 8) :
    wr.cell? ⟨ga, i, none⟩ = some (.int .i64 (T.counts.getD i 0)) ∧ wr.frozen? ⟨ga, i, none⟩ = false ∧ wr.cell? ⟨gb, i, none⟩ = some (.int .i64 (T.colors.getD i 0)) ∧ wr.frozen? ⟨gb, i, none⟩ = false := by
  obtain ⟨l1, l2⟩ := h.eight
  have key : ∀ {g n c : Nat} {zs : List Int}, ownI wr B (.slice (some ⟨g, 0, none⟩) n c) zs → i < zs.length → wr.cell? ⟨g, i, none⟩ = some (.int .i64 (zs.getD i 0)) ∧ wr.frozen? ⟨g, i, none⟩ = false := by
    intro g n c zs ho hl
    rcases ownI_form ho with ⟨h1, _⟩ | ⟨g2, cap, h1, _, _, _, _, HC⟩
    · cases h1
    · injection h1 with e1
      injection e1 with e1
      injection e1 with e1
      subst e1
      have := HC.out i hl
      rw [List.getD_eq_getElem?_getD, List.getElem?_eq_getElem hl, Option.getD_some]
      exact this
  obtain ⟨a1, a2⟩ := key h.x (by omega)
  obtain ⟨b1, b2⟩ := key h.y (by omega)
  exact ⟨a1, a2, b1, b2⟩

/-- How many of the eight colors in a block are others: what the loops count down. -/
def othersAt (X : World) (gb : Nat) (c : Int) : Nat := ((List.range 8).filter fun i => match X.cell? ⟨gb, i, none⟩ with | some (.int _ q) => !decide (q = c) | _ => false).length
theorem othersAt_is {W wr : World} {B ga gb cc d : Nat} {T : TrialD} {vq : Value} {todo : List Int} (h : BI W wr B ga gb cc d T vq todo) (c : Int) : othersAt wr gb c = others c T.colors := by
  obtain ⟨l1, l2⟩ := h.eight
  unfold othersAt others
  have h1 : ((List.range 8).filter fun i => match wr.cell? ⟨gb, i, none⟩ with | some (.int _ q) => !decide (q = c) | _ => false) = (List.range 8).filter fun i => !decide (T.colors.getD i 0 = c) := by
    refine List.filter_congr (fun i hi => ?_)
    rw [(bi_cells h i (List.mem_range.1 hi)).2.2.1]
  rw [h1]
  obtain ⟨ys, hys⟩ : ∃ ys, T.colors = ys := ⟨_, rfl⟩
  rw [hys] at l2 ⊢
  match ys, l2 with
  | [a0, a1, a2, a3, a4, a5, a6, a7], _ =>
    simp only [List.range, List.range.loop, List.countP_eq_length_filter]
    by_cases e0 : a0 = c <;> by_cases e1 : a1 = c <;> by_cases e2 : a2 = c <;> by_cases e3 : a3 = c <;> by_cases e4 : a4 = c <;> by_cases e5 : a5 = c <;> by_cases e6 : a6 = c <;> by_cases e7 : a7 = c <;> simp [List.filter, List.getD, e0, e1, e2, e3, e4, e5, e6, e7]

end Go.Proofs.Ytjhceoejblmihaa
