/- Operations one by one, more of them: moves, places of objects, loads and stores of numbers. -/
import Derived.Test.YtjhceoejblmihaaOpWalks
import Derived.Maps.AppendAt
namespace Go.Proofs.Ytjhceoejblmihaa
open Go.RowKit
set_option linter.unusedVariables false
set_option maxRecDepth 100000

theorem opMove {t i : Tmp} {ty : TypeId} {pos : String} {af : Array Edge} {a : Act} {X : World} {K : Act → World → Prop} {Q : Exit → Act → World → Prop} {v : Value} (h1 : a.eval (.tmp i) = v) (hK : K (a.put (some t) v) X) :
    Oper.wp Try.prog ⟨some t, .move (.tmp i), ty, pos, af, none⟩ a X K Q := by
  have h := ev_tmp h1
  go_simp; exact hK
theorem opIndexO {t i j : Tmp} {ty : TypeId} {pos : String} {af : Array Edge} {a : Act} {X : World} {K : Act → World → Prop} {Q : Exit → Act → World → Prop} {g n c k : Nat} (h1 : a.eval (.tmp i) = .slice (some ⟨g, 0, none⟩) n c) (h2 : a.eval (.tmp j) = .int .i64 (k : Int)) (hk : k < n) (hK : K (a.put (some t) (.pointer (some ⟨g, k * 8, none⟩))) X) :
    Oper.wp Try.prog ⟨some t, .indexAddr 32 (.tmp i) (.tmp j), ty, pos, af, none⟩ a X K Q := by
  have e1 := ev_tmp h1
  have e2 := ev_tmp h2
  have k1 : (0 : Int) ≤ (k : Int) := by omega
  have k2 : (k : Int) < (n : Int) := by omega
  go_simp; exact hK
theorem opFieldO5 {t i : Tmp} {ty : TypeId} {pos : String} {af : Array Edge} {a : Act} {X : World} {K : Act → World → Prop} {Q : Exit → Act → World → Prop} {g p : Nat} (h1 : a.eval (.tmp i) = .pointer (some ⟨g, p, none⟩)) (hK : K (a.put (some t) (.pointer (some ⟨g, p + 5, none⟩))) X) :
    Oper.wp Try.prog ⟨some t, .fieldAddr 61 (.tmp i) 5, ty, pos, af, none⟩ a X K Q := by
  have h := ev_tmp h1
  go_simp; exact hK
theorem opLoadInt {t i : Tmp} {ty : TypeId} {pos : String} {af : Array Edge} {a : Act} {X : World} {K : Act → World → Prop} {Q : Exit → Act → World → Prop} {g p : Nat} {v : Value} (h1 : a.eval (.tmp i) = .pointer (some ⟨g, p, none⟩)) (hc : X.cell? ⟨g, p, none⟩ = some v) (hK : K (a.put (some t) v) X) :
    Oper.wp Try.prog ⟨some t, .load 3 (.tmp i), ty, pos, af, none⟩ a X K Q := by
  have h := ev_tmp h1
  go_simp; exact hK
theorem opSub1 {t i : Tmp} {ty : TypeId} {pos : String} {af : Array Edge} {a : Act} {X : World} {K : Act → World → Prop} {Q : Exit → Act → World → Prop} {z : Int} (h1 : a.eval (.tmp i) = .int .i64 z) (hK : K (a.put (some t) (.int .i64 (wrap64 (z - 1)))) X) :
    Oper.wp Try.prog ⟨some t, .binOp .sub 3 (.tmp i) (.const (.int .i64 1)) 3, ty, pos, af, none⟩ a X K Q := by
  have h := ev_tmp h1
  have e : IntKind.i64.wrap (z - 1) = wrap64 (z - 1) := by rw [IntKind.wrap_i64]; simp only [wrap64]
  go_simp; exact hK
theorem opStoreInt {i j : Tmp} {ty : TypeId} {pos : String} {af : Array Edge} {a : Act} {X : World} {K : Act → World → Prop} {Q : Exit → Act → World → Prop} {g p : Nat} {u : Value} {z : Int} (h1 : a.eval (.tmp i) = .pointer (some ⟨g, p, none⟩)) (h2 : a.eval (.tmp j) = .int .i64 z) (hc : X.cell? ⟨g, p, none⟩ = some u) (hf : X.frozen? ⟨g, p, none⟩ = false) (hK : K a (X.setCell ⟨g, p, none⟩ (.int .i64 z))) :
    Oper.wp Try.prog ⟨none, .store 3 (.tmp i) (.tmp j), ty, pos, af, none⟩ a X K Q := by
  have e1 := ev_tmp h1
  have e2 := ev_tmp h2
  go_simp; exact hK

/-- 'append(l, x)', l a row of one's own: where the new one lies. -/
theorem wpList_appendL {w : World} {ops : Array Oper} {rest : List Oper} {o : Oper} {a : Act} {Q : Exit → Act → World → Prop} (hgd : o.guard = none) (s x : Operand)
    (ho : o.op = .call { callee := .builtin .append, args := #[s, x], argTypes := #[24, 24] }) (B : Nat) (v : Value) (P : List Int) (hs : a.eval s = v) (hown : ownI w B v P)
    (ad : Addr) (z : Int) (hx : a.eval x = .slice (some ad) 1 1) (hsrc : w.cell? ad = some (.int .i64 z)) (hlen : P.length ≤ 16777215) (hB : B ≤ w.heap.size)
    (h : ∀ v' w', ownI w' B v' (P ++ [z]) → w.heap.size ≤ w'.heap.size → Hid (∀ i, i < w.heap.size → v.ownBlock ≠ some i → w'.heap[i]? = w.heap[i]?) → Hid (v'.ownBlock = v.ownBlock ∨ v'.ownBlock = some w.heap.size) → Hid (∀ C w0, Below C w0 w → C ≤ B → Below C w0 w') → wpList Try.prog ops Q rest (a.put o.dst v') w') : wpList Try.prog ops Q (o :: rest) a w := by
  obtain ⟨i0, hi, hz0, hz1, hz2⟩ := info_parts infoI
  have hlt := World.ownsRow.lt hown
  refine wpList_append_own_at w hgd s x 24 ho B 3 i0 (.int .i64 0) 1 8 Try.underlying24 hi hz0 hz1 hz2 rfl (by decide) v P.length (P.map intV) hs hown ad 1 1 [intV z] hx rfl ?_ ?_ ?_ ?_ hB ?_
  · intro j u hj
    match j, hj with
    | 0, hj =>
      simp at hj
      subst hj
      rw [show ad.add 0 = ad from by cases ad; simp [Addr.add]]
      exact hsrc
    | j + 1, hj => simp at hj
  · intro u hu; simp at hu; subst hu; rfl
  · unfold maxLen; omega
  · omega
  · intro v' w' hown' hgrow _ hat
    refine h v' w' ?_ hgrow.size (fun i hi hne => hgrow.block i hi (fun e => hne e.symm)) hat (fun C w0 hb hC => ?_)
    · unfold ownI
      rw [List.length_append, List.map_append]
      exact hown'
    · exact ⟨hgrow.os.trans hb.os, hgrow.tape.trans hb.tape, hgrow.output.trans hb.output, Nat.le_trans hb.size hgrow.size, fun k hk => (hgrow.block k (by omega) (fun e => by have := (hlt k e.symm).1; omega)).trans (hb.block k hk)⟩

end Go.Proofs.Ytjhceoejblmihaa
