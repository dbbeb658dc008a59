/- The operations of impl.tried one by one. -/
import Derived.Test.YtjhceoejblmihaaIPaintWalk
import Derived.Test.YtjhceoejblmihaaTrialOk
import Derived.Test.YtjhceoejblmihaaAnyOps
namespace Go.Proofs.Ytjhceoejblmihaa
open Go.RowKit
set_option linter.unusedVariables false
set_option maxRecDepth 100000

theorem opFieldR0 {t i : Tmp} {ty : TypeId} {pos : String} {af : Array Edge} {a : Act} {X : World} {K : Act → World → Prop} {Q : Exit → Act → World → Prop} {P : Nat} (h1 : a.eval (.tmp i) = .pointer (some ⟨P, 0, none⟩)) (hK : K (a.put (some t) (.pointer (some ⟨P, 0, none⟩))) X) :
    Oper.wp Try.prog ⟨some t, .fieldAddr 83 (.tmp i) 0, ty, pos, af, none⟩ a X K Q := by
  have h := ev_tmp h1
  go_simp; exact hK
theorem opFieldR1 {t i : Tmp} {ty : TypeId} {pos : String} {af : Array Edge} {a : Act} {X : World} {K : Act → World → Prop} {Q : Exit → Act → World → Prop} {P : Nat} (h1 : a.eval (.tmp i) = .pointer (some ⟨P, 0, none⟩)) (hK : K (a.put (some t) (.pointer (some ⟨P, 8, none⟩))) X) :
    Oper.wp Try.prog ⟨some t, .fieldAddr 83 (.tmp i) 1, ty, pos, af, none⟩ a X K Q := by
  have h := ev_tmp h1
  go_simp; exact hK
theorem opToArr {t i : Tmp} {ty : TypeId} {pos : String} {af : Array Edge} {a : Act} {X : World} {K : Act → World → Prop} {Q : Exit → Act → World → Prop} {g off c : Nat} (h1 : a.eval (.tmp i) = .slice (some ⟨g, off, none⟩) 8 c) (hK : K (a.put (some t) (.pointer (some ⟨g, off, none⟩))) X) :
    Oper.wp Try.prog ⟨some t, .sliceToArrayPointer 81 (.tmp i), ty, pos, af, none⟩ a X K Q := by
  have h := ev_tmp h1
  go_simp; exact hK
theorem opLoadArr {t i : Tmp} {ty : TypeId} {pos : String} {af : Array Edge} {a : Act} {X : World} {K : Act → World → Prop} {Q : Exit → Act → World → Prop} {g off : Nat} {a0 a1 a2 a3 a4 a5 a6 a7 : Int} (h1 : a.eval (.tmp i) = .pointer (some ⟨g, off, none⟩))
    (hR : RdI X (some ⟨g, off, none⟩) [a0, a1, a2, a3, a4, a5, a6, a7]) (hK : K (a.put (some t) (.agg #[.int .i64 a0, .int .i64 a1, .int .i64 a2, .int .i64 a3, .int .i64 a4, .int .i64 a5, .int .i64 a6, .int .i64 a7])) X) :
    Oper.wp Try.prog ⟨some t, .load 81 (.tmp i), ty, pos, af, none⟩ a X K Q := by
  have h := ev_tmp h1
  have q : ∀ j (h : j < 8), X.cell? ⟨g, off + j, none⟩ = some (.int .i64 ([a0, a1, a2, a3, a4, a5, a6, a7][j])) := fun j hj => by
    obtain ⟨g2, off2, e, -, hc⟩ := hR j hj
    injection e with e
    injection e with e1 e2
    subst e1 e2
    exact hc
  have q0 := q 0 (by omega)
  have q1 := q 1 (by omega)
  have q2 := q 2 (by omega)
  have q3 := q 3 (by omega)
  have q4 := q 4 (by omega)
  have q5 := q 5 (by omega)
  have q6 := q 6 (by omega)
  have q7 := q 7 (by omega)
  simp only [List.getElem_cons_zero, List.getElem_cons_succ, Nat.add_zero] at q0 q1 q2 q3 q4 q5 q6 q7
  clear q hR
  go_simp; exact hK
theorem opBuildTr {t i j : Tmp} {ty : TypeId} {pos : String} {af : Array Edge} {a : Act} {X : World} {K : Act → World → Prop} {Q : Exit → Act → World → Prop} {a0 a1 a2 a3 a4 a5 a6 a7 b0 b1 b2 b3 b4 b5 b6 b7 : Int}
    (h1 : a.eval (.tmp i) = .agg #[.int .i64 a0, .int .i64 a1, .int .i64 a2, .int .i64 a3, .int .i64 a4, .int .i64 a5, .int .i64 a6, .int .i64 a7]) (h2 : a.eval (.tmp j) = .agg #[.int .i64 b0, .int .i64 b1, .int .i64 b2, .int .i64 b3, .int .i64 b4, .int .i64 b5, .int .i64 b6, .int .i64 b7])
    (hK : K (a.put (some t) (arrV (trD a0 a1 a2 a3 a4 a5 a6 a7 b0 b1 b2 b3 b4 b5 b6 b7))) X) : Oper.wp Try.prog ⟨some t, .build 83 #[(0, .tmp i), (1, .tmp j)], ty, pos, af, none⟩ a X K Q := by
  have e1 := ev_tmp h1
  have e2 := ev_tmp h2
  rw [trD_v] at hK
  go_simp; exact hK
theorem opLoadHp {t i : Tmp} {ty : TypeId} {pos : String} {af : Array Edge} {a : Act} {X : World} {K : Act → World → Prop} {Q : Exit → Act → World → Prop} {g : Nat} {x0 x1 x2 x3 : Option Addr} {n0 n1 n2 n3 c0 c1 c2 c3 : Nat} (h1 : a.eval (.tmp i) = .pointer (some ⟨g, 0, none⟩))
    (hF : Four X g (.slice x0 n0 c0) (.slice x1 n1 c1) (.slice x2 n2 c2) (.slice x3 n3 c3)) (hK : K (a.put (some t) (.agg #[.slice x0 n0 c0, .slice x1 n1 c1, .slice x2 n2 c2, .slice x3 n3 c3])) X) :
    Oper.wp Try.prog ⟨some t, .load 35 (.tmp i), ty, pos, af, none⟩ a X K Q := by
  have h := ev_tmp h1
  have q0 : X.cell? ⟨g, 0, none⟩ = _ := hF.cell 0
  have q1 : X.cell? ⟨g, 1, none⟩ = _ := hF.cell 1
  have q2 : X.cell? ⟨g, 2, none⟩ = _ := hF.cell 2
  have q3 : X.cell? ⟨g, 3, none⟩ = _ := hF.cell 3
  simp only [List.getElem?_toArray, List.getElem?_cons_zero, List.getElem?_cons_succ] at q0 q1 q2 q3
  go_simp; exact hK
theorem opMoveV {t i : Tmp} {ty : TypeId} {pos : String} {af : Array Edge} {a : Act} {X : World} {K : Act → World → Prop} {Q : Exit → Act → World → Prop} {v : Value} (h1 : a.eval (.tmp i) = v) (hK : K (a.put (some t) v) X) :
    Oper.wp Try.prog ⟨some t, .move (.tmp i), ty, pos, af, none⟩ a X K Q := by
  have h := ev_tmp h1
  go_simp; exact hK
theorem opAllocTr {t : Tmp} {ty : TypeId} {pos : String} {af : Array Edge} {a : Act} {X : World} {K : Act → World → Prop} {Q : Exit → Act → World → Prop} (hK : K (a.put (some t) (.pointer (some ⟨X.heap.size, 0, none⟩))) (X.alloc (.cells #[.int .i64 0, .int .i64 0, .int .i64 0, .int .i64 0, .int .i64 0, .int .i64 0, .int .i64 0, .int .i64 0, .int .i64 0, .int .i64 0, .int .i64 0, .int .i64 0, .int .i64 0, .int .i64 0, .int .i64 0, .int .i64 0] 83))) :
    Oper.wp Try.prog ⟨some t, .alloc 83, ty, pos, af, none⟩ a X K Q := by
  go_simp; exact hK
theorem opSliceArr {t i : Tmp} {ty : TypeId} {pos : String} {af : Array Edge} {a : Act} {X : World} {K : Act → World → Prop} {Q : Exit → Act → World → Prop} {g off : Nat} (h1 : a.eval (.tmp i) = .pointer (some ⟨g, off, none⟩)) (hK : K (a.put (some t) (.slice (some ⟨g, off, none⟩) 8 8)) X) :
    Oper.wp Try.prog ⟨some t, .slice 81 (.tmp i) none none none, ty, pos, af, none⟩ a X K Q := by
  have h := ev_tmp h1
  go_simp; exact hK
/-- A call through a function's value. -/
def TryOp (F : Nat) : Prop := ∀ (t f i j k : Tmp) (ty : TypeId) (pos : String) (af : Array Edge) (ats : Array TypeId) (a : Act) (X : World) (K : Act → World → Prop) (Q : Exit → Act → World → Prop) (u v z : Value) (post : Ending → World → Prop), a.eval (.tmp f) = .func (.func F) #[] #[] → a.eval (.tmp i) = u → a.eval (.tmp j) = v → a.eval (.tmp k) = z →
    Calls Try.prog F #[u, v, z] X post → (∀ e w', post e w' → ∃ x, e = .returned x ∧ K (a.put (some t) x) w') →
    Oper.wp Try.prog ⟨some t, .call { callee := .value (.tmp f), args := #[.tmp i, .tmp j, .tmp k], argTypes := ats }, ty, pos, af, none⟩ a X K Q
theorem tryGray : TryOp 61 := by
  intro t f i j k ty pos af ats a X K Q u v z post h0 h1 h2 h3 hC hK
  have e0 := ev_tmp h0
  have e1 := ev_tmp h1
  have e2 := ev_tmp h2
  have e3 := ev_tmp h3
  go_simp
  refine hC.mono (fun e w' hp => ?_)
  obtain ⟨x, rfl, hx⟩ := hK e w' hp
  exact hx
theorem tryScan : TryOp 63 := by
  intro t f i j k ty pos af ats a X K Q u v z post h0 h1 h2 h3 hC hK
  have e0 := ev_tmp h0
  have e1 := ev_tmp h1
  have e2 := ev_tmp h2
  have e3 := ev_tmp h3
  go_simp
  refine hC.mono (fun e w' hp => ?_)
  obtain ⟨x, rfl, hx⟩ := hK e w' hp
  exact hx
theorem opCloneI {t i : Tmp} {ty : TypeId} {pos : String} {af : Array Edge} {ats : Array TypeId} {a : Act} {X : World} {K : Act → World → Prop} {Q : Exit → Act → World → Prop} {v : Value} {post : Ending → World → Prop} (h1 : a.eval (.tmp i) = v) (hC : Calls Try.prog 80 #[v] X post) (hK : ∀ e w', post e w' → ∃ x, e = .returned x ∧ K (a.put (some t) x) w') :
    Oper.wp Try.prog ⟨some t, .call { callee := .value (.func 80), args := #[.tmp i], argTypes := ats }, ty, pos, af, none⟩ a X K Q := by
  have h := ev_tmp h1
  go_simp
  refine hC.mono (fun e w' hp => ?_)
  obtain ⟨x, rfl, hx⟩ := hK e w' hp
  exact hx
/-- A trial in arrays, read as two rows. -/
theorem Arr.rdx {X : World} {g : Nat} {T : TrialD} (h : Arr X g T) (h8 : Eight T) : RdI X (some ⟨g, 0, none⟩) T.counts := fun j hj => by
  refine ⟨g, 0, rfl, h.lt, ?_⟩
  have hj8 : j < 8 := by have := h8.1; omega
  rw [Nat.zero_add, h.count h8 j hj8]
  unfold cnt
  rw [List.getD_eq_getElem?_getD, List.getElem?_eq_getElem hj]; rfl
theorem Arr.rdy {X : World} {g : Nat} {T : TrialD} (h : Arr X g T) (h8 : Eight T) : RdI X (some ⟨g, 8, none⟩) T.colors := fun j hj => by
  refine ⟨g, 8, rfl, h.lt, ?_⟩
  have hj8 : j < 8 := by have := h8.2; omega
  rw [h.color h8 j hj8]
  unfold col
  rw [List.getD_eq_getElem?_getD, List.getElem?_eq_getElem hj]; rfl

end Go.Proofs.Ytjhceoejblmihaa
