/- The operations that make a graph out of a heap. -/
import Derived.Test.YtjihbmkhifnblaaGraphCopy
namespace Go.Proofs.Ytjihbmkhifnblaa
open Go.RowKit
set_option linter.unusedVariables false
set_option maxRecDepth 100000

theorem opBuildG2 {t i j : Tmp} {ty : TypeId} {pos : String} {af : Array Edge} {a : Act} {X : World} {K : Act → World → Prop} {Q : Exit → Act → World → Prop} {x y : Option Addr} {n m c d : Nat} (h1 : a.eval (.tmp i) = .slice x n c) (h2 : a.eval (.tmp j) = .slice y m d) (hK : K (a.put (some t) (.agg #[.slice none 0 0, .slice x n c, .slice y m d])) X) :
    Oper.wp Try.prog ⟨some t, .build 26 #[(1, .tmp i), (2, .tmp j)], ty, pos, af, none⟩ a X K Q := by
  have e1 := ev_tmp h1
  have e2 := ev_tmp h2
  go_simp; exact hK
theorem opAllocG {t : Tmp} {ty : TypeId} {pos : String} {af : Array Edge} {a : Act} {X : World} {K : Act → World → Prop} {Q : Exit → Act → World → Prop} (hK : K (a.put (some t) (.pointer (some ⟨X.heap.size, 0, none⟩))) (X.alloc (.cells #[.slice none 0 0, .slice none 0 0, .slice none 0 0] 26))) :
    Oper.wp Try.prog ⟨some t, .alloc 26, ty, pos, af, none⟩ a X K Q := by go_simp; exact hK
theorem opStoreG {i j : Tmp} {ty : TypeId} {pos : String} {af : Array Edge} {a : Act} {X : World} {K : Act → World → Prop} {Q : Exit → Act → World → Prop} {g : Nat} {u0 u1 u2 : Value} {x0 x y : Option Addr} {n0 n m c0 c d : Nat} (h1 : a.eval (.tmp i) = .pointer (some ⟨g, 0, none⟩)) (h2 : a.eval (.tmp j) = .agg #[.slice x0 n0 c0, .slice x n c, .slice y m d])
    (hf : Tri X g u0 u1 u2) (hK : K a (setTri X g (.slice x0 n0 c0) (.slice x n c) (.slice y m d))) : Oper.wp Try.prog ⟨none, .store 26 (.tmp i) (.tmp j), ty, pos, af, none⟩ a X K Q := by
  have e1 := ev_tmp h1
  have e2 := ev_tmp h2
  have k0 : X.cell? ⟨g, 0, none⟩ = some u0 := hf.cell 0
  have k1 : X.cell? ⟨g, 1, none⟩ = some u1 := hf.cell 1
  have k2 : X.cell? ⟨g, 2, none⟩ = some u2 := hf.cell 2
  have f0 := hf.frozen 0
  have f1 := hf.frozen 1
  have f2 := hf.frozen 2
  unfold setTri at hK
  clear hf
  go_simp; exact hK
theorem opFieldG0 {t i : Tmp} {ty : TypeId} {pos : String} {af : Array Edge} {a : Act} {X : World} {K : Act → World → Prop} {Q : Exit → Act → World → Prop} {P : Nat} (h1 : a.eval (.tmp i) = .pointer (some ⟨P, 0, none⟩)) (hK : K (a.put (some t) (.pointer (some ⟨P, 0, none⟩))) X) :
    Oper.wp Try.prog ⟨some t, .fieldAddr 26 (.tmp i) 0, ty, pos, af, none⟩ a X K Q := by
  have h := ev_tmp h1
  go_simp; exact hK
theorem opLoadNs {t i : Tmp} {ty : TypeId} {pos : String} {af : Array Edge} {a : Act} {X : World} {K : Act → World → Prop} {Q : Exit → Act → World → Prop} {P k : Nat} {v : Value} (h1 : a.eval (.tmp i) = .pointer (some ⟨P, k, none⟩)) (hc : X.cell? ⟨P, k, none⟩ = some v) (hK : K (a.put (some t) v) X) :
    Oper.wp Try.prog ⟨some t, .load 22 (.tmp i), ty, pos, af, none⟩ a X K Q := by
  have h := ev_tmp h1
  go_simp; exact hK
theorem opFieldOb {t i : Tmp} {ty : TypeId} {pos : String} {af : Array Edge} {a : Act} {X : World} {K : Act → World → Prop} {Q : Exit → Act → World → Prop} {P : Nat} (k : Nat) (hk : k < 7) (h1 : a.eval (.tmp i) = .pointer (some ⟨P, 0, none⟩)) (hK : K (a.put (some t) (.pointer (some ⟨P, k, none⟩))) X) :
    Oper.wp Try.prog ⟨some t, .fieldAddr 73 (.tmp i) k, ty, pos, af, none⟩ a X K Q := by
  have h := ev_tmp h1
  match k, hk with
  | 0, _ => go_simp; exact hK
  | 1, _ => go_simp; exact hK
  | 2, _ => go_simp; exact hK
  | 3, _ => go_simp; exact hK
  | 4, _ => go_simp; exact hK
  | 5, _ => go_simp; exact hK
  | 6, _ => go_simp; exact hK
theorem opLoadBo {t i : Tmp} {ty : TypeId} {pos : String} {af : Array Edge} {a : Act} {X : World} {K : Act → World → Prop} {Q : Exit → Act → World → Prop} {P k : Nat} {v : Value} (h1 : a.eval (.tmp i) = .pointer (some ⟨P, k, none⟩)) (hc : X.cell? ⟨P, k, none⟩ = some v) (hK : K (a.put (some t) v) X) :
    Oper.wp Try.prog ⟨some t, .load 4 (.tmp i), ty, pos, af, none⟩ a X K Q := by
  have h := ev_tmp h1
  go_simp; exact hK
theorem opBuildNd {t i0 i1 i2 i3 i4 i5 : Tmp} {ty : TypeId} {pos : String} {af : Array Edge} {a : Act} {X : World} {K : Act → World → Prop} {Q : Exit → Act → World → Prop} {l : Bool} {z1 z2 z3 z4 : Int} {x : Option Addr} {n c : Nat} (h0 : a.eval (.tmp i0) = .bool l) (h1 : a.eval (.tmp i1) = .int .i64 z1) (h2 : a.eval (.tmp i2) = .int .i64 z2) (h3 : a.eval (.tmp i3) = .int .i64 z3) (h4 : a.eval (.tmp i4) = .int .i64 z4) (h5 : a.eval (.tmp i5) = .slice x n c) (hK : K (a.put (some t) (.agg #[.bool l, .int .i64 z1, .int .i64 z2, .int .i64 z3, .int .i64 z4, .slice x n c])) X) :
    Oper.wp Try.prog ⟨some t, .build 54 #[(0, .tmp i0), (1, .tmp i1), (2, .tmp i2), (3, .tmp i3), (4, .tmp i4), (5, .tmp i5)], ty, pos, af, none⟩ a X K Q := by
  have e0 := ev_tmp h0
  have e1 := ev_tmp h1
  have e2 := ev_tmp h2
  have e3 := ev_tmp h3
  have e4 := ev_tmp h4
  have e5 := ev_tmp h5
  go_simp; exact hK
theorem opNew1N {t i : Tmp} {ty : TypeId} {pos : String} {af : Array Edge} {a : Act} {X : World} {K : Act → World → Prop} {Q : Exit → Act → World → Prop} {l : Bool} {z1 z2 z3 z4 : Int} {x : Option Addr} {n c : Nat} (h1 : a.eval (.tmp i) = .agg #[.bool l, .int .i64 z1, .int .i64 z2, .int .i64 z3, .int .i64 z4, .slice x n c]) (hK : K (a.put (some t) (.slice (some ⟨X.heap.size, 0, none⟩) 1 1)) (X.alloc (.cells #[.bool l, .int .i64 z1, .int .i64 z2, .int .i64 z3, .int .i64 z4, .slice x n c] 54))) :
    Oper.wp Try.prog ⟨some t, .buildSlice 22 1 #[(0, .tmp i)], ty, pos, af, none⟩ a X K Q := by
  have e1 := ev_tmp h1
  go_simp; exact hK
theorem opStoreNs {i j : Tmp} {ty : TypeId} {pos : String} {af : Array Edge} {a : Act} {X : World} {K : Act → World → Prop} {Q : Exit → Act → World → Prop} {g p n c : Nat} {u : Value} {x : Option Addr} (h1 : a.eval (.tmp i) = .pointer (some ⟨g, p, none⟩)) (h2 : a.eval (.tmp j) = .slice x n c) (hc : X.cell? ⟨g, p, none⟩ = some u) (hf : X.frozen? ⟨g, p, none⟩ = false) (hK : K a (X.setCell ⟨g, p, none⟩ (.slice x n c))) :
    Oper.wp Try.prog ⟨none, .store 22 (.tmp i) (.tmp j), ty, pos, af, none⟩ a X K Q := by
  have e1 := ev_tmp h1
  have e2 := ev_tmp h2
  go_simp; exact hK

end Go.Proofs.Ytjihbmkhifnblaa
