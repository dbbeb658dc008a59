/- Single operations at a frame of which only what is read is known: for regions in whatever order. -/
import Derived.Test.YtjhceoejblmihaaAnyLast
import Derived.Test.YtjhceoejblmihaaFreshRow
namespace Go.Proofs.Ytjhceoejblmihaa
open Go.RowKit
set_option linter.unusedVariables false
set_option maxRecDepth 100000

theorem ev_tmp {a : Act} {t : Tmp} {v : Value} (h : a.eval (.tmp t) = v) : a.tmps[t]?.getD undef = v := by
  rw [← h]; simp [Act.eval, Array.getD_eq_getD_getElem?]

theorem opField {t i : Tmp} {ty : TypeId} {pos : String} {af : Array Edge} {a : Act} {X : World} {K : Act → World → Prop} {Q : Exit → Act → World → Prop} {P : Nat} (k : Nat) (hk : k < 4) (h1 : a.eval (.tmp i) = .pointer (some ⟨P, 0, none⟩)) (hK : K (a.put (some t) (.pointer (some ⟨P, k, none⟩))) X) :
    Oper.wp Try.prog ⟨some t, .fieldAddr 35 (.tmp i) k, ty, pos, af, none⟩ a X K Q := by
  have h := ev_tmp h1
  match k, hk with
  | 0, _ => go_simp; exact hK
  | 1, _ => go_simp; exact hK
  | 2, _ => go_simp; exact hK
  | 3, _ => go_simp; exact hK
theorem opLoadO {t i : Tmp} {ty : TypeId} {pos : String} {af : Array Edge} {a : Act} {X : World} {K : Act → World → Prop} {Q : Exit → Act → World → Prop} {P k : Nat} {v : Value} (h1 : a.eval (.tmp i) = .pointer (some ⟨P, k, none⟩)) (hc : X.cell? ⟨P, k, none⟩ = some v) (hK : K (a.put (some t) v) X) :
    Oper.wp Try.prog ⟨some t, .load 32 (.tmp i), ty, pos, af, none⟩ a X K Q := by
  have h := ev_tmp h1
  go_simp; exact hK
theorem opLoadW {t i : Tmp} {ty : TypeId} {pos : String} {af : Array Edge} {a : Act} {X : World} {K : Act → World → Prop} {Q : Exit → Act → World → Prop} {P k : Nat} {v : Value} (h1 : a.eval (.tmp i) = .pointer (some ⟨P, k, none⟩)) (hc : X.cell? ⟨P, k, none⟩ = some v) (hK : K (a.put (some t) v) X) :
    Oper.wp Try.prog ⟨some t, .load 33 (.tmp i), ty, pos, af, none⟩ a X K Q := by
  have h := ev_tmp h1
  go_simp; exact hK
theorem opLoadI {t i : Tmp} {ty : TypeId} {pos : String} {af : Array Edge} {a : Act} {X : World} {K : Act → World → Prop} {Q : Exit → Act → World → Prop} {P k : Nat} {v : Value} (h1 : a.eval (.tmp i) = .pointer (some ⟨P, k, none⟩)) (hc : X.cell? ⟨P, k, none⟩ = some v) (hK : K (a.put (some t) v) X) :
    Oper.wp Try.prog ⟨some t, .load 24 (.tmp i), ty, pos, af, none⟩ a X K Q := by
  have h := ev_tmp h1
  go_simp; exact hK
theorem opLoadS {t i : Tmp} {ty : TypeId} {pos : String} {af : Array Edge} {a : Act} {X : World} {K : Act → World → Prop} {Q : Exit → Act → World → Prop} {P k : Nat} {v : Value} (h1 : a.eval (.tmp i) = .pointer (some ⟨P, k, none⟩)) (hc : X.cell? ⟨P, k, none⟩ = some v) (hK : K (a.put (some t) v) X) :
    Oper.wp Try.prog ⟨some t, .load 25 (.tmp i), ty, pos, af, none⟩ a X K Q := by
  have h := ev_tmp h1
  go_simp; exact hK
theorem opNewW {t : Tmp} {ty : TypeId} {pos : String} {af : Array Edge} {a : Act} {X : World} {K : Act → World → Prop} {Q : Exit → Act → World → Prop} (hK : K (a.put (some t) (.slice (some ⟨X.heap.size, 0, none⟩) 0 0)) (X.alloc (.cells #[] 98))) :
    Oper.wp Try.prog ⟨some t, .buildSlice 33 0 #[], ty, pos, af, none⟩ a X K Q := by go_simp; exact hK
theorem opNewI {t : Tmp} {ty : TypeId} {pos : String} {af : Array Edge} {a : Act} {X : World} {K : Act → World → Prop} {Q : Exit → Act → World → Prop} (hK : K (a.put (some t) (.slice (some ⟨X.heap.size, 0, none⟩) 0 0)) (X.alloc (.cells #[] 3))) :
    Oper.wp Try.prog ⟨some t, .buildSlice 24 0 #[], ty, pos, af, none⟩ a X K Q := by go_simp; exact hK
theorem opNewS {t : Tmp} {ty : TypeId} {pos : String} {af : Array Edge} {a : Act} {X : World} {K : Act → World → Prop} {Q : Exit → Act → World → Prop} (hK : K (a.put (some t) (.slice (some ⟨X.heap.size, 0, none⟩) 0 0)) (X.alloc (.cells #[] 9))) :
    Oper.wp Try.prog ⟨some t, .buildSlice 25 0 #[], ty, pos, af, none⟩ a X K Q := by go_simp; exact hK
theorem opAlloc {t : Tmp} {ty : TypeId} {pos : String} {af : Array Edge} {a : Act} {X : World} {K : Act → World → Prop} {Q : Exit → Act → World → Prop} (hK : K (a.put (some t) (.pointer (some ⟨X.heap.size, 0, none⟩))) (X.alloc (.cells #[.slice none 0 0, .slice none 0 0, .slice none 0 0, .slice none 0 0] 35))) :
    Oper.wp Try.prog ⟨some t, .alloc 35, ty, pos, af, none⟩ a X K Q := by go_simp; exact hK
theorem opBuild3 {t i j k : Tmp} {ty : TypeId} {pos : String} {af : Array Edge} {a : Act} {X : World} {K : Act → World → Prop} {Q : Exit → Act → World → Prop} {x y z : Option Addr} {n m l c d e : Nat} (h1 : a.eval (.tmp i) = .slice x n c) (h2 : a.eval (.tmp j) = .slice y m d) (h3 : a.eval (.tmp k) = .slice z l e)
    (hK : K (a.put (some t) (.agg #[.slice none 0 0, .slice x n c, .slice y m d, .slice z l e])) X) : Oper.wp Try.prog ⟨some t, .build 35 #[(1, .tmp i), (2, .tmp j), (3, .tmp k)], ty, pos, af, none⟩ a X K Q := by
  have e1 := ev_tmp h1
  have e2 := ev_tmp h2
  have e3 := ev_tmp h3
  go_simp; exact hK
theorem opBuild4 {t h i j k : Tmp} {ty : TypeId} {pos : String} {af : Array Edge} {a : Act} {X : World} {K : Act → World → Prop} {Q : Exit → Act → World → Prop} {x0 x y z : Option Addr} {n0 n m l c0 c d e : Nat} (h0 : a.eval (.tmp h) = .slice x0 n0 c0) (h1 : a.eval (.tmp i) = .slice x n c) (h2 : a.eval (.tmp j) = .slice y m d) (h3 : a.eval (.tmp k) = .slice z l e)
    (hK : K (a.put (some t) (.agg #[.slice x0 n0 c0, .slice x n c, .slice y m d, .slice z l e])) X) : Oper.wp Try.prog ⟨some t, .build 35 #[(0, .tmp h), (1, .tmp i), (2, .tmp j), (3, .tmp k)], ty, pos, af, none⟩ a X K Q := by
  have e0 := ev_tmp h0
  have e1 := ev_tmp h1
  have e2 := ev_tmp h2
  have e3 := ev_tmp h3
  go_simp; exact hK
/-- A block of four slices, and a heap's value stored there. -/
def Four (X : World) (g : Nat) (x0 x1 x2 x3 : Value) : Prop := X.heap[g]? = some (.cells #[x0, x1, x2, x3] 35 (0, 0))
theorem Four.cell {X : World} {g : Nat} {x0 x1 x2 x3 : Value} (h : Four X g x0 x1 x2 x3) (k : Nat) : X.cell? ⟨g, k, none⟩ = (#[x0, x1, x2, x3] : Array Value)[k]? := by
  have h' : X.heap[g]? = some (.cells #[x0, x1, x2, x3] 35 (0, 0)) := h
  simp [World.cell?, h']
theorem Four.frozen {X : World} {g : Nat} {x0 x1 x2 x3 : Value} (h : Four X g x0 x1 x2 x3) (k : Nat) : X.frozen? ⟨g, k, none⟩ = false := by
  have h' : X.heap[g]? = some (.cells #[x0, x1, x2, x3] 35 (0, 0)) := h
  simp [World.frozen?, h']
theorem Four.lt {X : World} {g : Nat} {x0 x1 x2 x3 : Value} (h : Four X g x0 x1 x2 x3) : g < X.heap.size := (Array.getElem?_eq_some_iff.1 h).1
theorem Four.same {X Y : World} {g : Nat} {x0 x1 x2 x3 : Value} (h : Four X g x0 x1 x2 x3) (hs : Y.heap[g]? = X.heap[g]?) : Four Y g x0 x1 x2 x3 := hs.trans h
/-- Four cells of a block are written. -/
def setFour (X : World) (g : Nat) (y0 y1 y2 y3 : Value) : World := (((X.setCell ⟨g, 0, none⟩ y0).setCell ⟨g, 1, none⟩ y1).setCell ⟨g, 2, none⟩ y2).setCell ⟨g, 3, none⟩ y3
theorem opStoreH {i j : Tmp} {ty : TypeId} {pos : String} {af : Array Edge} {a : Act} {X : World} {K : Act → World → Prop} {Q : Exit → Act → World → Prop} {g : Nat} {u0 u1 u2 u3 : Value} {x0 x y z : Option Addr} {n0 n m l c0 c d e : Nat} (h1 : a.eval (.tmp i) = .pointer (some ⟨g, 0, none⟩)) (h2 : a.eval (.tmp j) = .agg #[.slice x0 n0 c0, .slice x n c, .slice y m d, .slice z l e])
    (hf : Four X g u0 u1 u2 u3) (hK : K a (setFour X g (.slice x0 n0 c0) (.slice x n c) (.slice y m d) (.slice z l e))) : Oper.wp Try.prog ⟨none, .store 35 (.tmp i) (.tmp j), ty, pos, af, none⟩ a X K Q := by
  have e1 := ev_tmp h1
  have e2 := ev_tmp h2
  have k0 : X.cell? ⟨g, 0, none⟩ = some u0 := hf.cell 0
  have k1 : X.cell? ⟨g, 1, none⟩ = some u1 := hf.cell 1
  have k2 : X.cell? ⟨g, 2, none⟩ = some u2 := hf.cell 2
  have k3 : X.cell? ⟨g, 3, none⟩ = some u3 := hf.cell 3
  have f0 := hf.frozen 0
  have f1 := hf.frozen 1
  have f2 := hf.frozen 2
  have f3 := hf.frozen 3
  go_simp; exact hK
theorem setFour_size (X : World) (g : Nat) (y0 y1 y2 y3 : Value) : (setFour X g y0 y1 y2 y3).heap.size = X.heap.size := by unfold setFour; simp [World.setCell]
theorem setFour_other (X : World) (g : Nat) (y0 y1 y2 y3 : Value) (i : Nat) (h : i ≠ g) : (setFour X g y0 y1 y2 y3).heap[i]? = X.heap[i]? := by
  unfold setFour
  iterate 4 rw [heap_setCell_other _ _ _ _ (by exact h)]
theorem setFour_four {X : World} {g : Nat} {u0 u1 u2 u3 : Value} (y0 y1 y2 y3 : Value) (h : Four X g u0 u1 u2 u3) : ∀ k, k < 4 → (setFour X g y0 y1 y2 y3).cell? ⟨g, k, none⟩ = (#[y0, y1, y2, y3] : Array Value)[k]? := by
  have same : ∀ (W : World) (q : Nat) (u v : Value), W.cell? ⟨g, q, none⟩ = some v → (W.setCell ⟨g, q, none⟩ u).cell? ⟨g, q, none⟩ = some u := fun W q u v hW => World.cell?_setCell_same W _ u hW
  intro k hk
  unfold setFour
  match k, hk with
  | 0, _ =>
    iterate 3 rw [cell_far _ _ _ _ _ (by omega)]
    exact same _ _ _ _ (h.cell 0)
  | 1, _ =>
    iterate 2 rw [cell_far _ _ _ _ _ (by omega)]
    exact same _ _ _ _ (by rw [cell_far _ _ _ _ _ (by omega)]; exact h.cell 1)
  | 2, _ =>
    rw [cell_far _ _ _ _ _ (by omega)]
    exact same _ _ _ _ (by iterate 2 rw [cell_far _ _ _ _ _ (by omega)]
                           exact h.cell 2)
  | 3, _ =>
    exact same _ _ _ _ (by iterate 3 rw [cell_far _ _ _ _ _ (by omega)]
                           exact h.cell 3)

end Go.Proofs.Ytjhceoejblmihaa
