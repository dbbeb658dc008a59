/- The operations of the laws on MarkGray and ScanFrom in regions that draw their order. -/
import Derived.Test.YtjhceoejblmihaaTrialHelp
namespace Go.Proofs.Ytjhceoejblmihaa
open Go.RowKit
set_option linter.unusedVariables false
set_option maxRecDepth 100000

theorem opLoadLH {t i : Tmp} {ty : TypeId} {pos : String} {af : Array Edge} {a : Act} {X : World} {K : Act → World → Prop} {Q : Exit → Act → World → Prop} {g : Nat} {x0 x1 x2 x3 : Option Addr} {n0 n1 n2 n3 c0 c1 c2 c3 : Nat} (h1 : a.eval (.tmp i) = .pointer (some ⟨g, 0, none⟩))
    (q0 : X.cell? ⟨g, 0, none⟩ = some (.slice x0 n0 c0)) (q1 : X.cell? ⟨g, 1, none⟩ = some (.slice x1 n1 c1)) (q2 : X.cell? ⟨g, 2, none⟩ = some (.slice x2 n2 c2)) (q3 : X.cell? ⟨g, 3, none⟩ = some (.slice x3 n3 c3)) (hK : K (a.put (some t) (.agg #[.slice x0 n0 c0, .slice x1 n1 c1, .slice x2 n2 c2, .slice x3 n3 c3])) X) :
    Oper.wp Try.prog ⟨some t, .load 27 (.tmp i), ty, pos, af, none⟩ a X K Q := by
  have h := ev_tmp h1
  go_simp; exact hK
theorem opLoadLT {t i : Tmp} {ty : TypeId} {pos : String} {af : Array Edge} {a : Act} {X : World} {K : Act → World → Prop} {Q : Exit → Act → World → Prop} {g : Nat} {x0 x1 : Option Addr} {n0 n1 c0 c1 : Nat} (h1 : a.eval (.tmp i) = .pointer (some ⟨g, 0, none⟩))
    (q0 : X.cell? ⟨g, 0, none⟩ = some (.slice x0 n0 c0)) (q1 : X.cell? ⟨g, 1, none⟩ = some (.slice x1 n1 c1)) (hK : K (a.put (some t) (.agg #[.slice x0 n0 c0, .slice x1 n1 c1])) X) :
    Oper.wp Try.prog ⟨some t, .load 42 (.tmp i), ty, pos, af, none⟩ a X K Q := by
  have h := ev_tmp h1
  go_simp; exact hK
theorem opToH {t i : Tmp} {ty : TypeId} {pos : String} {af : Array Edge} {ats : Array TypeId} {a : Act} {X : World} {K : Act → World → Prop} {Q : Exit → Act → World → Prop} {v : Value} {post : Ending → World → Prop} (h1 : a.eval (.tmp i) = v) (hC : Calls Try.prog 11 #[v] X post) (hK : ∀ e w', post e w' → ∃ x, e = .returned x ∧ K (a.put (some t) x) w') :
    Oper.wp Try.prog ⟨some t, .call { callee := .value (.func 11), args := #[.tmp i], argTypes := ats }, ty, pos, af, none⟩ a X K Q := by
  have h := ev_tmp h1
  go_simp
  refine hC.mono (fun e w' hp => ?_)
  obtain ⟨x, rfl, hx⟩ := hK e w' hp
  exact hx
theorem opToT {t i : Tmp} {ty : TypeId} {pos : String} {af : Array Edge} {ats : Array TypeId} {a : Act} {X : World} {K : Act → World → Prop} {Q : Exit → Act → World → Prop} {v : Value} {post : Ending → World → Prop} (h1 : a.eval (.tmp i) = v) (hC : Calls Try.prog 20 #[v] X post) (hK : ∀ e w', post e w' → ∃ x, e = .returned x ∧ K (a.put (some t) x) w') :
    Oper.wp Try.prog ⟨some t, .call { callee := .value (.func 20), args := #[.tmp i], argTypes := ats }, ty, pos, af, none⟩ a X K Q := by
  have h := ev_tmp h1
  go_simp
  refine hC.mono (fun e w' hp => ?_)
  obtain ⟨x, rfl, hx⟩ := hK e w' hp
  exact hx
theorem opAllocT {t : Tmp} {ty : TypeId} {pos : String} {af : Array Edge} {a : Act} {X : World} {K : Act → World → Prop} {Q : Exit → Act → World → Prop} (hK : K (a.put (some t) (.pointer (some ⟨X.heap.size, 0, none⟩))) (X.alloc (.cells #[.slice none 0 0, .slice none 0 0] 30))) :
    Oper.wp Try.prog ⟨some t, .alloc 30, ty, pos, af, none⟩ a X K Q := by
  go_simp; exact hK
theorem opSpecMarkGray {t i j k : Tmp} {ty : TypeId} {pos : String} {af : Array Edge} {ats : Array TypeId} {a : Act} {X : World} {K : Act → World → Prop} {Q : Exit → Act → World → Prop} {u v z : Value} {post : Ending → World → Prop} (h1 : a.eval (.tmp i) = u) (h2 : a.eval (.tmp j) = v) (h3 : a.eval (.tmp k) = z) (hC : Calls Try.prog 25 #[u, v, z] X post) (hK : ∀ e w', post e w' → ∃ x, e = .returned x ∧ K (a.put (some t) x) w') :
    Oper.wp Try.prog ⟨some t, .call { callee := .value (.func 25), args := #[.tmp i, .tmp j, .tmp k], argTypes := ats }, ty, pos, af, none⟩ a X K Q := by
  have e1 := ev_tmp h1
  have e2 := ev_tmp h2
  have e3 := ev_tmp h3
  go_simp
  refine hC.mono (fun e w' hp => ?_)
  obtain ⟨x, rfl, hx⟩ := hK e w' hp
  exact hx
theorem opImplMarkGray {t i j k : Tmp} {ty : TypeId} {pos : String} {af : Array Edge} {ats : Array TypeId} {a : Act} {X : World} {K : Act → World → Prop} {Q : Exit → Act → World → Prop} {u v z : Value} {post : Ending → World → Prop} (h1 : a.eval (.tmp i) = u) (h2 : a.eval (.tmp j) = v) (h3 : a.eval (.tmp k) = z) (hC : Calls Try.prog 26 #[u, v, z] X post) (hK : ∀ e w', post e w' → ∃ x, e = .returned x ∧ K (a.put (some t) x) w') :
    Oper.wp Try.prog ⟨some t, .call { callee := .value (.func 26), args := #[.tmp i, .tmp j, .tmp k], argTypes := ats }, ty, pos, af, none⟩ a X K Q := by
  have e1 := ev_tmp h1
  have e2 := ev_tmp h2
  have e3 := ev_tmp h3
  go_simp
  refine hC.mono (fun e w' hp => ?_)
  obtain ⟨x, rfl, hx⟩ := hK e w' hp
  exact hx
theorem opSpecScanFrom {t i j k : Tmp} {ty : TypeId} {pos : String} {af : Array Edge} {ats : Array TypeId} {a : Act} {X : World} {K : Act → World → Prop} {Q : Exit → Act → World → Prop} {u v z : Value} {post : Ending → World → Prop} (h1 : a.eval (.tmp i) = u) (h2 : a.eval (.tmp j) = v) (h3 : a.eval (.tmp k) = z) (hC : Calls Try.prog 27 #[u, v, z] X post) (hK : ∀ e w', post e w' → ∃ x, e = .returned x ∧ K (a.put (some t) x) w') :
    Oper.wp Try.prog ⟨some t, .call { callee := .value (.func 27), args := #[.tmp i, .tmp j, .tmp k], argTypes := ats }, ty, pos, af, none⟩ a X K Q := by
  have e1 := ev_tmp h1
  have e2 := ev_tmp h2
  have e3 := ev_tmp h3
  go_simp
  refine hC.mono (fun e w' hp => ?_)
  obtain ⟨x, rfl, hx⟩ := hK e w' hp
  exact hx
theorem opImplScanFrom {t i j k : Tmp} {ty : TypeId} {pos : String} {af : Array Edge} {ats : Array TypeId} {a : Act} {X : World} {K : Act → World → Prop} {Q : Exit → Act → World → Prop} {u v z : Value} {post : Ending → World → Prop} (h1 : a.eval (.tmp i) = u) (h2 : a.eval (.tmp j) = v) (h3 : a.eval (.tmp k) = z) (hC : Calls Try.prog 28 #[u, v, z] X post) (hK : ∀ e w', post e w' → ∃ x, e = .returned x ∧ K (a.put (some t) x) w') :
    Oper.wp Try.prog ⟨some t, .call { callee := .value (.func 28), args := #[.tmp i, .tmp j, .tmp k], argTypes := ats }, ty, pos, af, none⟩ a X K Q := by
  have e1 := ev_tmp h1
  have e2 := ev_tmp h2
  have e3 := ev_tmp h3
  go_simp
  refine hC.mono (fun e w' hp => ?_)
  obtain ⟨x, rfl, hx⟩ := hK e w' hp
  exact hx
/-- What each operation of 'x := F(toHeap(h), toTrial(t), slot)' yields. -/
def RL (B : Nat) (vh vt vz : Value) (H : HeapD) (T G : TrialD) : Nat → World → Value → Prop
  | 0, _, v => v = vh
  | 1, X, v => RdH X v H
  | 2, _, v => v = vt
  | 3, X, v => ∃ s : TSh, v = s.v ∧ TM X B s T
  | 4, _, v => v = vz
  | 5, X, v => ∃ s : TSh, v = s.v ∧ TM X B s G
  | 6, X, v => ∃ g, v = .pointer (some ⟨g, 0, none⟩) ∧ B ≤ g ∧ Two X g (.slice none 0 0) (.slice none 0 0)
  | _, _, _ => True
theorem rl_mono {B : Nat} {vh vt vz : Value} {H : HeapD} {T G : TrialD} (i : Nat) (X Y : World) (v : Value) (h : RL B vh vt vz H T G i X v) (hb : Below X.heap.size X Y) : RL B vh vt vz H T G i Y v := by
  match i, h with
  | 0, h => exact h
  | 1, h => exact rdH_later h hb
  | 2, h => exact h
  | 3, ⟨s, h1, h2⟩ => exact ⟨s, h1, h2.later hb⟩
  | 4, h => exact h
  | 5, ⟨s, h1, h2⟩ => exact ⟨s, h1, h2.later hb⟩
  | 6, ⟨g, h1, h2, h3⟩ => exact ⟨g, h1, h2, h3.later hb h3.lt⟩
  | n + 7, _ => exact trivial
/-- A row of numbers lies in no block of a trial's variable. -/
theorem own_two_ne {X : World} {B g : Nat} {v x0 x1 : Value} {zs : List Int} (h : ownI X B v zs) (ht : Two X g x0 x1) : v.ownBlock ≠ some g := by
  intro hv
  rcases h with ⟨h1, ⟨h2, -⟩ | ⟨g2, cap, cur, h2, h3, h4, h5⟩⟩
  · rw [h2] at hv; simp [Value.ownBlock] at hv
  · rw [h2] at hv
    have e : g2 = g := by simpa [Value.ownBlock] using hv
    subst e
    have ht' : X.heap[g2]? = some (.cells #[x0, x1] 30 (0, 0)) := ht
    rw [ht'] at h4
    simp at h4
theorem two_set {X : World} {g : Nat} {x0 x1 : Value} (h : Two X g x0 x1) (y0 y1 : Value) : Two (setTwo X g y0 y1) g y0 y1 := by
  have h1 := heap_setCell_same X g 0 _ _ y0 h
  exact heap_setCell_same _ g 1 _ _ y1 h1
theorem szH_le1 (H : HeapD) : szH H 1048576 ≤ 1048576 := by
  have l1 := szO_le H.objs 1048576 (by omega)
  unfold szH
  generalize szO H.objs 1048576 = a at *
  split
  · omega
  · have l2 := szN_le H.weaks.length a (by omega)
    generalize szN H.weaks.length a = b at *
    split
    · omega
    · have l3 := szN_le H.buffer.length b (by omega)
      generalize szN H.buffer.length b = c at *
      split
      · omega
      · have l4 := szS_le H.sites c (by omega)
        split <;> omega

end Go.Proofs.Ytjhceoejblmihaa
