/- What impl's painted makes: a trial in arrays, handed on by value, painted by calls. -/
import Derived.Test.YtjhceoejblmihaaPaintMath
import Derived.Test.YtjhceoejblmihaaIRing
import Derived.Test.YtjhceoejblmihaaAnyOps
namespace Go.Proofs.Ytjhceoejblmihaa
open Go.RowKit
set_option linter.unusedVariables false
set_option maxRecDepth 100000

/-- The cells of a trial in arrays: eight counts, eight colors. -/
def cells16 (T : TrialD) : List Value := (T.counts ++ T.colors).map intV
def arrV (T : TrialD) : Value := .agg (cells16 T).toArray
theorem eight_form {T : TrialD} (h : Eight T) : ∃ a0 a1 a2 a3 a4 a5 a6 a7 b0 b1 b2 b3 b4 b5 b6 b7 : Int, T = ⟨[a0, a1, a2, a3, a4, a5, a6, a7], [b0, b1, b2, b3, b4, b5, b6, b7]⟩ := by
  obtain ⟨xs, ys⟩ := T
  obtain ⟨h1, h2⟩ := h
  match xs, h1, ys, h2 with
  | [a0, a1, a2, a3, a4, a5, a6, a7], _, [b0, b1, b2, b3, b4, b5, b6, b7], _ => exact ⟨_, _, _, _, _, _, _, _, _, _, _, _, _, _, _, _, rfl⟩
/-- A block that holds a trial in arrays. -/
def Arr (X : World) (g : Nat) (T : TrialD) : Prop := X.heap[g]? = some (.cells (cells16 T).toArray 83 (0, 0))
theorem Arr.new (w : World) (T : TrialD) : Arr (w.alloc (.cells (cells16 T).toArray 83)) w.heap.size T := heap_alloc_new w _
theorem Arr.lt {X : World} {g : Nat} {T : TrialD} (h : Arr X g T) : g < X.heap.size := (Array.getElem?_eq_some_iff.1 h).1
theorem Arr.later {X Y : World} {g : Nat} {T : TrialD} (h : Arr X g T) (hb : Below X.heap.size X Y) : Arr Y g T := (hb.block g h.lt).trans h
theorem Arr.same {X Y : World} {g : Nat} {T : TrialD} (h : Arr X g T) (hs : Y.heap[g]? = X.heap[g]?) : Arr Y g T := hs.trans h
theorem Arr.cell {X : World} {g : Nat} {T : TrialD} (h : Arr X g T) (k : Nat) : X.cell? ⟨g, k, none⟩ = (cells16 T)[k]? := by
  have h' : X.heap[g]? = some (.cells (cells16 T).toArray 83 (0, 0)) := h
  simp [World.cell?, h']
theorem Arr.frozen {X : World} {g : Nat} {T : TrialD} (h : Arr X g T) (k : Nat) : X.frozen? ⟨g, k, none⟩ = false := by
  have h' : X.heap[g]? = some (.cells (cells16 T).toArray 83 (0, 0)) := h
  simp [World.frozen?, h']
theorem Arr.count {X : World} {g : Nat} {T : TrialD} (h : Arr X g T) (h8 : Eight T) (k : Nat) (hk : k < 8) : X.cell? ⟨g, k, none⟩ = some (.int .i64 (cnt T k)) := by
  rw [h.cell k]
  unfold cells16 cnt
  have hl : k < T.counts.length := by have := h8.1; omega
  rw [List.getElem?_map, List.getElem?_append_left hl, List.getElem?_eq_getElem hl, List.getD_eq_getElem?_getD, List.getElem?_eq_getElem hl]
  rfl
theorem Arr.color {X : World} {g : Nat} {T : TrialD} (h : Arr X g T) (h8 : Eight T) (k : Nat) (hk : k < 8) : X.cell? ⟨g, 8 + k, none⟩ = some (.int .i64 (col T k)) := by
  rw [h.cell (8 + k)]
  unfold cells16 col
  have hl : k < T.colors.length := by have := h8.2; omega
  rw [List.getElem?_map, List.getElem?_append_right (by have := h8.1; omega), show 8 + k - T.counts.length = k from by have := h8.1; omega, List.getElem?_eq_getElem hl, List.getD_eq_getElem?_getD, List.getElem?_eq_getElem hl]
  rfl
theorem Arr.setCount {X : World} {g : Nat} {T : TrialD} (h : Arr X g T) (h8 : Eight T) (k : Nat) (hk : k < 8) (z : Int) : Arr (X.setCell ⟨g, k, none⟩ (.int .i64 z)) g ⟨T.counts.set k z, T.colors⟩ := by
  have e := heap_setCell_same X g k _ _ (.int .i64 z) h
  have e2 : ((cells16 T).toArray.setIfInBounds k (.int .i64 z)) = (cells16 ⟨T.counts.set k z, T.colors⟩).toArray := by
    unfold cells16
    rw [List.setIfInBounds_toArray]
    simp only [List.map_append, List.map_set, intV]
    rw [List.set_append_left _ _ (by have := h8.1; simpa using by omega)]
  rw [e2] at e
  exact e
theorem Arr.setColor {X : World} {g : Nat} {T : TrialD} (h : Arr X g T) (h8 : Eight T) (k : Nat) (hk : k < 8) (z : Int) : Arr (X.setCell ⟨g, 8 + k, none⟩ (.int .i64 z)) g ⟨T.counts, T.colors.set k z⟩ := by
  have e := heap_setCell_same X g (8 + k) _ _ (.int .i64 z) h
  have e2 : ((cells16 T).toArray.setIfInBounds (8 + k) (.int .i64 z)) = (cells16 ⟨T.counts, T.colors.set k z⟩).toArray := by
    unfold cells16
    rw [List.setIfInBounds_toArray]
    simp only [List.map_append, List.map_set, intV]
    rw [List.set_append_right _ _ (by have := h8.1; simpa using by omega), List.length_map, show 8 + k - T.counts.length = k from by have := h8.1; omega]
  rw [e2] at e
  exact e

theorem arr_v (a0 a1 a2 a3 a4 a5 a6 a7 b0 b1 b2 b3 b4 b5 b6 b7 : Int) : arrV ⟨[a0, a1, a2, a3, a4, a5, a6, a7], [b0, b1, b2, b3, b4, b5, b6, b7]⟩ = .agg #[.int .i64 a0, .int .i64 a1, .int .i64 a2, .int .i64 a3, .int .i64 a4, .int .i64 a5, .int .i64 a6, .int .i64 a7, .int .i64 b0, .int .i64 b1, .int .i64 b2, .int .i64 b3, .int .i64 b4, .int .i64 b5, .int .i64 b6, .int .i64 b7] := rfl
def trD (a0 a1 a2 a3 a4 a5 a6 a7 b0 b1 b2 b3 b4 b5 b6 b7 : Int) : TrialD := ⟨[a0, a1, a2, a3, a4, a5, a6, a7], [b0, b1, b2, b3, b4, b5, b6, b7]⟩
theorem trD_eight (a0 a1 a2 a3 a4 a5 a6 a7 b0 b1 b2 b3 b4 b5 b6 b7 : Int) : Eight (trD a0 a1 a2 a3 a4 a5 a6 a7 b0 b1 b2 b3 b4 b5 b6 b7) := ⟨rfl, rfl⟩
theorem eight_trD {T : TrialD} (h : Eight T) : ∃ a0 a1 a2 a3 a4 a5 a6 a7 b0 b1 b2 b3 b4 b5 b6 b7 : Int, T = trD a0 a1 a2 a3 a4 a5 a6 a7 b0 b1 b2 b3 b4 b5 b6 b7 := by
  obtain ⟨a0, a1, a2, a3, a4, a5, a6, a7, b0, b1, b2, b3, b4, b5, b6, b7, e⟩ := eight_form h
  exact ⟨a0, a1, a2, a3, a4, a5, a6, a7, b0, b1, b2, b3, b4, b5, b6, b7, e⟩
theorem trD_v (a0 a1 a2 a3 a4 a5 a6 a7 b0 b1 b2 b3 b4 b5 b6 b7 : Int) : arrV (trD a0 a1 a2 a3 a4 a5 a6 a7 b0 b1 b2 b3 b4 b5 b6 b7) = .agg #[.int .i64 a0, .int .i64 a1, .int .i64 a2, .int .i64 a3, .int .i64 a4, .int .i64 a5, .int .i64 a6, .int .i64 a7, .int .i64 b0, .int .i64 b1, .int .i64 b2, .int .i64 b3, .int .i64 b4, .int .i64 b5, .int .i64 b6, .int .i64 b7] := rfl
def set16 (X : World) (g : Nat) (a0 a1 a2 a3 a4 a5 a6 a7 b0 b1 b2 b3 b4 b5 b6 b7 : Int) : World := ((((((((((((((((X.setCell ⟨g, 0, none⟩ (.int .i64 a0)).setCell ⟨g, 1, none⟩ (.int .i64 a1)).setCell ⟨g, 2, none⟩ (.int .i64 a2)).setCell ⟨g, 3, none⟩ (.int .i64 a3)).setCell ⟨g, 4, none⟩ (.int .i64 a4)).setCell ⟨g, 5, none⟩ (.int .i64 a5)).setCell ⟨g, 6, none⟩ (.int .i64 a6)).setCell ⟨g, 7, none⟩ (.int .i64 a7)).setCell ⟨g, 8, none⟩ (.int .i64 b0)).setCell ⟨g, 9, none⟩ (.int .i64 b1)).setCell ⟨g, 10, none⟩ (.int .i64 b2)).setCell ⟨g, 11, none⟩ (.int .i64 b3)).setCell ⟨g, 12, none⟩ (.int .i64 b4)).setCell ⟨g, 13, none⟩ (.int .i64 b5)).setCell ⟨g, 14, none⟩ (.int .i64 b6)).setCell ⟨g, 15, none⟩ (.int .i64 b7))
theorem set16_size (X : World) (g : Nat) (a0 a1 a2 a3 a4 a5 a6 a7 b0 b1 b2 b3 b4 b5 b6 b7 : Int) : (set16 X g a0 a1 a2 a3 a4 a5 a6 a7 b0 b1 b2 b3 b4 b5 b6 b7).heap.size = X.heap.size := by
  have e : ∀ (Y : World) (p : Addr) (u : Value), (Y.setCell p u).heap.size = Y.heap.size := fun Y p u => by simp [World.setCell]
  unfold set16
  iterate 16 rw [e]
theorem set16_other (X : World) (g : Nat) (a0 a1 a2 a3 a4 a5 a6 a7 b0 b1 b2 b3 b4 b5 b6 b7 : Int) (i : Nat) (h : i ≠ g) : (set16 X g a0 a1 a2 a3 a4 a5 a6 a7 b0 b1 b2 b3 b4 b5 b6 b7).heap[i]? = X.heap[i]? := by
  have e : ∀ (Y : World) (k : Nat) (u : Value), (Y.setCell ⟨g, k, none⟩ u).heap[i]? = Y.heap[i]? := fun Y k u => heap_setCell_other _ _ _ _ (by exact h)
  unfold set16
  iterate 16 rw [e]
theorem set16_arr {X : World} {g : Nat} {T : TrialD} (h : Arr X g T) (h8 : Eight T) (a0 a1 a2 a3 a4 a5 a6 a7 b0 b1 b2 b3 b4 b5 b6 b7 : Int) : Arr (set16 X g a0 a1 a2 a3 a4 a5 a6 a7 b0 b1 b2 b3 b4 b5 b6 b7) g (trD a0 a1 a2 a3 a4 a5 a6 a7 b0 b1 b2 b3 b4 b5 b6 b7) := by
  obtain ⟨c0, c1, c2, c3, c4, c5, c6, c7, d0, d1, d2, d3, d4, d5, d6, d7, rfl⟩ := eight_form h8
  have h0 : Arr X g ⟨[c0, c1, c2, c3, c4, c5, c6, c7], [d0, d1, d2, d3, d4, d5, d6, d7]⟩ := h
  have h1 : Arr _ g ⟨[a0, c1, c2, c3, c4, c5, c6, c7], [d0, d1, d2, d3, d4, d5, d6, d7]⟩ := h0.setCount ⟨rfl, rfl⟩ 0 (by omega) a0
  have h2 : Arr _ g ⟨[a0, a1, c2, c3, c4, c5, c6, c7], [d0, d1, d2, d3, d4, d5, d6, d7]⟩ := h1.setCount ⟨rfl, rfl⟩ 1 (by omega) a1
  have h3 : Arr _ g ⟨[a0, a1, a2, c3, c4, c5, c6, c7], [d0, d1, d2, d3, d4, d5, d6, d7]⟩ := h2.setCount ⟨rfl, rfl⟩ 2 (by omega) a2
  have h4 : Arr _ g ⟨[a0, a1, a2, a3, c4, c5, c6, c7], [d0, d1, d2, d3, d4, d5, d6, d7]⟩ := h3.setCount ⟨rfl, rfl⟩ 3 (by omega) a3
  have h5 : Arr _ g ⟨[a0, a1, a2, a3, a4, c5, c6, c7], [d0, d1, d2, d3, d4, d5, d6, d7]⟩ := h4.setCount ⟨rfl, rfl⟩ 4 (by omega) a4
  have h6 : Arr _ g ⟨[a0, a1, a2, a3, a4, a5, c6, c7], [d0, d1, d2, d3, d4, d5, d6, d7]⟩ := h5.setCount ⟨rfl, rfl⟩ 5 (by omega) a5
  have h7 : Arr _ g ⟨[a0, a1, a2, a3, a4, a5, a6, c7], [d0, d1, d2, d3, d4, d5, d6, d7]⟩ := h6.setCount ⟨rfl, rfl⟩ 6 (by omega) a6
  have h8 : Arr _ g ⟨[a0, a1, a2, a3, a4, a5, a6, a7], [d0, d1, d2, d3, d4, d5, d6, d7]⟩ := h7.setCount ⟨rfl, rfl⟩ 7 (by omega) a7
  have h9 : Arr _ g ⟨[a0, a1, a2, a3, a4, a5, a6, a7], [b0, d1, d2, d3, d4, d5, d6, d7]⟩ := h8.setColor ⟨rfl, rfl⟩ 0 (by omega) b0
  have h10 : Arr _ g ⟨[a0, a1, a2, a3, a4, a5, a6, a7], [b0, b1, d2, d3, d4, d5, d6, d7]⟩ := h9.setColor ⟨rfl, rfl⟩ 1 (by omega) b1
  have h11 : Arr _ g ⟨[a0, a1, a2, a3, a4, a5, a6, a7], [b0, b1, b2, d3, d4, d5, d6, d7]⟩ := h10.setColor ⟨rfl, rfl⟩ 2 (by omega) b2
  have h12 : Arr _ g ⟨[a0, a1, a2, a3, a4, a5, a6, a7], [b0, b1, b2, b3, d4, d5, d6, d7]⟩ := h11.setColor ⟨rfl, rfl⟩ 3 (by omega) b3
  have h13 : Arr _ g ⟨[a0, a1, a2, a3, a4, a5, a6, a7], [b0, b1, b2, b3, b4, d5, d6, d7]⟩ := h12.setColor ⟨rfl, rfl⟩ 4 (by omega) b4
  have h14 : Arr _ g ⟨[a0, a1, a2, a3, a4, a5, a6, a7], [b0, b1, b2, b3, b4, b5, d6, d7]⟩ := h13.setColor ⟨rfl, rfl⟩ 5 (by omega) b5
  have h15 : Arr _ g ⟨[a0, a1, a2, a3, a4, a5, a6, a7], [b0, b1, b2, b3, b4, b5, b6, d7]⟩ := h14.setColor ⟨rfl, rfl⟩ 6 (by omega) b6
  have h16 : Arr _ g ⟨[a0, a1, a2, a3, a4, a5, a6, a7], [b0, b1, b2, b3, b4, b5, b6, b7]⟩ := h15.setColor ⟨rfl, rfl⟩ 7 (by omega) b7
  exact h16
theorem set16_below {n : Nat} {w X : World} {g : Nat} (a0 a1 a2 a3 a4 a5 a6 a7 b0 b1 b2 b3 b4 b5 b6 b7 : Int) (h : Below n w X) (hg : n ≤ g) : Below n w (set16 X g a0 a1 a2 a3 a4 a5 a6 a7 b0 b1 b2 b3 b4 b5 b6 b7) := by
  have e : ∀ (Y : World) (k : Nat) (u : Value), Below n w Y → Below n w (Y.setCell ⟨g, k, none⟩ u) := fun Y k u hY => hY.setCell (p := ⟨g, k, none⟩) hg u
  unfold set16
  iterate 16 apply e
  exact h
/-- The sixteen cells. -/
theorem Arr.all {X : World} {g : Nat} {a0 a1 a2 a3 a4 a5 a6 a7 b0 b1 b2 b3 b4 b5 b6 b7 : Int} (h : Arr X g (trD a0 a1 a2 a3 a4 a5 a6 a7 b0 b1 b2 b3 b4 b5 b6 b7)) : X.cell? ⟨g, 0, none⟩ = some (.int .i64 a0) ∧ X.cell? ⟨g, 1, none⟩ = some (.int .i64 a1) ∧ X.cell? ⟨g, 2, none⟩ = some (.int .i64 a2) ∧ X.cell? ⟨g, 3, none⟩ = some (.int .i64 a3) ∧ X.cell? ⟨g, 4, none⟩ = some (.int .i64 a4) ∧ X.cell? ⟨g, 5, none⟩ = some (.int .i64 a5) ∧ X.cell? ⟨g, 6, none⟩ = some (.int .i64 a6) ∧ X.cell? ⟨g, 7, none⟩ = some (.int .i64 a7) ∧ X.cell? ⟨g, 8, none⟩ = some (.int .i64 b0) ∧ X.cell? ⟨g, 9, none⟩ = some (.int .i64 b1) ∧ X.cell? ⟨g, 10, none⟩ = some (.int .i64 b2) ∧ X.cell? ⟨g, 11, none⟩ = some (.int .i64 b3) ∧ X.cell? ⟨g, 12, none⟩ = some (.int .i64 b4) ∧ X.cell? ⟨g, 13, none⟩ = some (.int .i64 b5) ∧ X.cell? ⟨g, 14, none⟩ = some (.int .i64 b6) ∧ X.cell? ⟨g, 15, none⟩ = some (.int .i64 b7) := by
  have q : ∀ k, X.cell? ⟨g, k, none⟩ = (#[.int .i64 a0, .int .i64 a1, .int .i64 a2, .int .i64 a3, .int .i64 a4, .int .i64 a5, .int .i64 a6, .int .i64 a7, .int .i64 b0, .int .i64 b1, .int .i64 b2, .int .i64 b3, .int .i64 b4, .int .i64 b5, .int .i64 b6, .int .i64 b7] : Array Value)[k]? := fun k => by
    have h' : X.heap[g]? = some (.cells #[.int .i64 a0, .int .i64 a1, .int .i64 a2, .int .i64 a3, .int .i64 a4, .int .i64 a5, .int .i64 a6, .int .i64 a7, .int .i64 b0, .int .i64 b1, .int .i64 b2, .int .i64 b3, .int .i64 b4, .int .i64 b5, .int .i64 b6, .int .i64 b7] 83 (0, 0)) := h
    simp [World.cell?, h']
  exact ⟨q 0, q 1, q 2, q 3, q 4, q 5, q 6, q 7, q 8, q 9, q 10, q 11, q 12, q 13, q 14, q 15⟩

theorem opLoad16 {t i : Tmp} {ty : TypeId} {pos : String} {af : Array Edge} {a : Act} {X : World} {K : Act → World → Prop} {Q : Exit → Act → World → Prop} {g : Nat} {a0 a1 a2 a3 a4 a5 a6 a7 b0 b1 b2 b3 b4 b5 b6 b7 : Int} (h1 : a.eval (.tmp i) = .pointer (some ⟨g, 0, none⟩)) (hA : Arr X g (trD a0 a1 a2 a3 a4 a5 a6 a7 b0 b1 b2 b3 b4 b5 b6 b7)) (hK : K (a.put (some t) (.agg #[.int .i64 a0, .int .i64 a1, .int .i64 a2, .int .i64 a3, .int .i64 a4, .int .i64 a5, .int .i64 a6, .int .i64 a7, .int .i64 b0, .int .i64 b1, .int .i64 b2, .int .i64 b3, .int .i64 b4, .int .i64 b5, .int .i64 b6, .int .i64 b7])) X) :
    Oper.wp Try.prog ⟨some t, .load 83 (.tmp i), ty, pos, af, none⟩ a X K Q := by
  have e1 := ev_tmp h1
  obtain ⟨f0_, f1_, f2_, f3_, f4_, f5_, f6_, f7_, f8_, f9_, f10_, f11_, f12_, f13_, f14_, f15_⟩ := hA.all
  go_simp; exact hK
set_option maxHeartbeats 1000000 in
theorem opStore16 {i j : Tmp} {ty : TypeId} {pos : String} {af : Array Edge} {a : Act} {X : World} {K : Act → World → Prop} {Q : Exit → Act → World → Prop} {g : Nat} {T : TrialD} {a0 a1 a2 a3 a4 a5 a6 a7 b0 b1 b2 b3 b4 b5 b6 b7 : Int} (h1 : a.eval (.tmp i) = .pointer (some ⟨g, 0, none⟩)) (h2 : a.eval (.tmp j) = .agg #[.int .i64 a0, .int .i64 a1, .int .i64 a2, .int .i64 a3, .int .i64 a4, .int .i64 a5, .int .i64 a6, .int .i64 a7, .int .i64 b0, .int .i64 b1, .int .i64 b2, .int .i64 b3, .int .i64 b4, .int .i64 b5, .int .i64 b6, .int .i64 b7]) (hA : Arr X g T) (h8 : Eight T) (hK : K a (set16 X g a0 a1 a2 a3 a4 a5 a6 a7 b0 b1 b2 b3 b4 b5 b6 b7)) :
    Oper.wp Try.prog ⟨none, .store 83 (.tmp i) (.tmp j), ty, pos, af, none⟩ a X K Q := by
  have e1 := ev_tmp h1
  have e2 := ev_tmp h2
  obtain ⟨p0, p1, p2, p3, p4, p5, p6, p7, p8, p9, p10, p11, p12, p13, p14, p15, rfl⟩ := eight_trD h8
  obtain ⟨f0_, f1_, f2_, f3_, f4_, f5_, f6_, f7_, f8_, f9_, f10_, f11_, f12_, f13_, f14_, f15_⟩ := hA.all
  have z0_ := hA.frozen 0
  have z1_ := hA.frozen 1
  have z2_ := hA.frozen 2
  have z3_ := hA.frozen 3
  have z4_ := hA.frozen 4
  have z5_ := hA.frozen 5
  have z6_ := hA.frozen 6
  have z7_ := hA.frozen 7
  have z8_ := hA.frozen 8
  have z9_ := hA.frozen 9
  have z10_ := hA.frozen 10
  have z11_ := hA.frozen 11
  have z12_ := hA.frozen 12
  have z13_ := hA.frozen 13
  have z14_ := hA.frozen 14
  have z15_ := hA.frozen 15
  unfold set16 at hK
  clear h8 hA
  go_simp; exact hK
theorem wpList_load16 {ops : Array Oper} {rest : List Oper} {t i : Tmp} {ty : TypeId} {pos : String} {af : Array Edge} {a : Act} {X : World} {Q : Exit → Act → World → Prop} {g : Nat} {a0 a1 a2 a3 a4 a5 a6 a7 b0 b1 b2 b3 b4 b5 b6 b7 : Int} (h1 : a.eval (.tmp i) = .pointer (some ⟨g, 0, none⟩)) (hA : Arr X g (trD a0 a1 a2 a3 a4 a5 a6 a7 b0 b1 b2 b3 b4 b5 b6 b7)) (h : wpList Try.prog ops Q rest (a.put (some t) (.agg #[.int .i64 a0, .int .i64 a1, .int .i64 a2, .int .i64 a3, .int .i64 a4, .int .i64 a5, .int .i64 a6, .int .i64 a7, .int .i64 b0, .int .i64 b1, .int .i64 b2, .int .i64 b3, .int .i64 b4, .int .i64 b5, .int .i64 b6, .int .i64 b7])) X) :
    wpList Try.prog ops Q (⟨some t, .load 83 (.tmp i), ty, pos, af, none⟩ :: rest) a X := wpList_plain rfl fun K hK => opLoad16 h1 hA (hK _ _ h)
theorem wpList_store16 {ops : Array Oper} {rest : List Oper} {i j : Tmp} {ty : TypeId} {pos : String} {af : Array Edge} {a : Act} {X : World} {Q : Exit → Act → World → Prop} {g : Nat} {T : TrialD} {a0 a1 a2 a3 a4 a5 a6 a7 b0 b1 b2 b3 b4 b5 b6 b7 : Int} (h1 : a.eval (.tmp i) = .pointer (some ⟨g, 0, none⟩)) (h2 : a.eval (.tmp j) = .agg #[.int .i64 a0, .int .i64 a1, .int .i64 a2, .int .i64 a3, .int .i64 a4, .int .i64 a5, .int .i64 a6, .int .i64 a7, .int .i64 b0, .int .i64 b1, .int .i64 b2, .int .i64 b3, .int .i64 b4, .int .i64 b5, .int .i64 b6, .int .i64 b7]) (hA : Arr X g T) (h8 : Eight T) (h : wpList Try.prog ops Q rest a (set16 X g a0 a1 a2 a3 a4 a5 a6 a7 b0 b1 b2 b3 b4 b5 b6 b7)) :
    wpList Try.prog ops Q (⟨none, .store 83 (.tmp i) (.tmp j), ty, pos, af, none⟩ :: rest) a X := wpList_plain rfl fun K hK => opStore16 h1 h2 hA h8 (hK _ _ h)

end Go.Proofs.Ytjhceoejblmihaa
