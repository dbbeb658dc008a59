/- What a region yields, said by a list. -/
import Derived.Test.YtebgngofnmcklaaDoorAnyOps
namespace Go.Proofs.YtebgngofnmcklaaDoor
open Go.RowKit
set_option linter.unusedVariables false
set_option maxRecDepth 100000

/-- What a region's operations yield: operation m what P says, the others what stands in the list. -/
def RP (m : Nat) (P : World → Value → Prop) (L : List Value) (i : Nat) (X : World) (v : Value) : Prop := (i = m → P X v) ∧ (i ≠ m → v = L.getD i undef)
theorem rp_mono {m : Nat} {P : World → Value → Prop} {L : List Value} (hP : ∀ X Y v, P X v → Below X.heap.size X Y → P Y v) (i : Nat) (X Y : World) (v : Value) (h : RP m P L i X v) (hb : Below X.heap.size X Y) : RP m P L i Y v :=
  ⟨fun e => hP X Y v (h.1 e) hb, h.2⟩
theorem rp_at {m : Nat} {P : World → Value → Prop} {L : List Value} {i : Nat} {X : World} {v u : Value} (h : RP m P L i X v) (hi : i ≠ m) (hu : L.getD i undef = u) : v = u := (h.2 hi).trans hu
theorem rp_p {m : Nat} {P : World → Value → Prop} {L : List Value} {X : World} {v : Value} (h : RP m P L m X v) : P X v := h.1 rfl
theorem rp_put {m : Nat} {P : World → Value → Prop} {L : List Value} {i : Nat} {X : World} {v : Value} (hi : i ≠ m) (hv : L.getD i undef = v) : RP m P L i X v := ⟨fun e => absurd e hi, fun _ => hv.symm⟩
theorem rp_call {m : Nat} {P : World → Value → Prop} {L : List Value} {X : World} {v : Value} (h : P X v) : RP m P L m X v := ⟨fun _ => h, fun e => absurd rfl e⟩
def noP : World → Value → Prop := fun _ _ => True
theorem noP_mono (X Y : World) (v : Value) (h : noP X v) (hb : Below X.heap.size X Y) : noP Y v := h

theorem opNil {t i : Tmp} {ty : TypeId} {pos : String} {af : Array Edge} {a : Act} {X : World} {K : Act → World → Prop} {Q : Exit → Act → World → Prop} {x : Addr} (h1 : a.eval (.tmp i) = .pointer (some x)) (hK : K (a.put (some t) (.pointer (some x))) X) :
    Oper.wp Tryd.prog ⟨some t, .nilCheck (.tmp i), ty, pos, af, none⟩ a X K Q := by
  have h := ev_tmp h1
  go_simp; exact hK

end Go.Proofs.YtebgngofnmcklaaDoor
