/- Answers: what the laws' helpers on them and both SameAnswer do. -/
import Derived.Test.YtjhdnachbahbmaaHeapMath
import Derived.Test.YtjhdnachbahbmaaHeapMark
import Derived.Test.YtjhdnachbahbmaaEqWalks
namespace Go.Proofs.Ytjhdnachbahbmaa
open Go.RowKit
set_option linter.unusedVariables false
set_option maxRecDepth 100000

/-- An answer's data. -/
structure AnsD where
  code : Int
  val : Int
  freed : List Int

/-- An answer's value, as one who only reads has it. -/
def RdA (w : World) (v : Value) (A : AnsD) : Prop := ∃ a c, v = .agg #[.int .i64 A.code, .int .i64 A.val, .slice a A.freed.length c] ∧ RdI w a A.freed
theorem rdA_later {w w' : World} {v : Value} {A : AnsD} (h : RdA w v A) (hb : Below w.heap.size w w') : RdA w' v A := by
  obtain ⟨a, c, h1, h2⟩ := h
  exact ⟨a, c, h1, rdI_later h2 hb⟩
/-- No longer than a slice can be, and each number is an int. -/
structure SaneA (A : AnsD) : Prop where
  code : in64 A.code
  val : in64 A.val
  len : A.freed.length ≤ 9223372036854775807
  freed : ∀ z ∈ A.freed, in64 z

/-- Three cells of an answer in a block of their own. -/
def Three (X : World) (g : Nat) (x0 x1 x2 : Value) : Prop := X.heap[g]? = some (.cells #[x0, x1, x2] 38 (0, 0))
theorem Three.cell {X : World} {g : Nat} {x0 x1 x2 : Value} (h : Three X g x0 x1 x2) (k : Nat) : X.cell? ⟨g, k, none⟩ = (#[x0, x1, x2] : Array Value)[k]? := by
  have h' : X.heap[g]? = some (.cells #[x0, x1, x2] 38 (0, 0)) := h
  simp [World.cell?, h']
theorem Three.frozen {X : World} {g : Nat} {x0 x1 x2 : Value} (h : Three X g x0 x1 x2) (k : Nat) : X.frozen? ⟨g, k, none⟩ = false := by
  have h' : X.heap[g]? = some (.cells #[x0, x1, x2] 38 (0, 0)) := h
  simp [World.frozen?, h']
theorem Three.lt {X : World} {g : Nat} {x0 x1 x2 : Value} (h : Three X g x0 x1 x2) : g < X.heap.size := (Array.getElem?_eq_some_iff.1 h).1
theorem Three.later {X Y : World} {g : Nat} {x0 x1 x2 : Value} (h : Three X g x0 x1 x2) (hb : Below X.heap.size X Y) : Three Y g x0 x1 x2 := (hb.block g h.lt).trans h
theorem Three.new (w : World) (x0 x1 x2 : Value) : Three (w.alloc (.cells #[x0, x1, x2] 38)) w.heap.size x0 x1 x2 := heap_alloc_new w _

end Go.Proofs.Ytjhdnachbahbmaa

namespace Go.Proofs.Ytjhdnachbahbmaa
open Go.RowKit Go.ChangeShapes Go.WideShapes Go.ChangeAt Go.Deep
set_option linter.unusedVariables false
set_option maxRecDepth 100000

section
variable {T : Type} {enc : TypeId × Value → T} {w : World} {held : Bool}

end

theorem opLoadAi {t i : Tmp} {ty : TypeId} {pos : String} {af : Array Edge} {a : Act} {X : World} {K : Act → World → Prop} {Q : Exit → Act → World → Prop} {g : Nat} {x0 x1 : Int} {x2 : Option Addr} {n c : Nat} (h1 : a.eval (.tmp i) = .pointer (some ⟨g, 0, none⟩)) (q0 : X.cell? ⟨g, 0, none⟩ = some (.int .i64 x0)) (q1 : X.cell? ⟨g, 1, none⟩ = some (.int .i64 x1)) (q2 : X.cell? ⟨g, 2, none⟩ = some (.slice x2 n c)) (hK : K (a.put (some t) (.agg #[.int .i64 x0, .int .i64 x1, .slice x2 n c])) X) :
    Oper.wp Try.prog ⟨some t, .load 38 (.tmp i), ty, pos, af, none⟩ a X K Q := by
  have h := ev_tmp h1
  go_simp; exact hK

theorem opNot {t i : Tmp} {ty : TypeId} {pos : String} {af : Array Edge} {a : Act} {X : World} {K : Act → World → Prop} {Q : Exit → Act → World → Prop} (h1 : a.eval (.tmp i) = .bool true) (hK : K (a.put (some t) (.bool false)) X) :
    Oper.wp Try.prog ⟨some t, .unOp .not 4 (.tmp i), ty, pos, af, none⟩ a X K Q := by
  have h := ev_tmp h1
  go_simp; exact hK

theorem opAssign {t i : Tmp} {ty : TypeId} {pos : String} {af : Array Edge} {a : Act} {X : World} {K : Act → World → Prop} {Q : Exit → Act → World → Prop} {v : Value} (h1 : a.eval (.tmp i) = v) (hK : K (a.put (some t) v) X) :
    Oper.wp Try.prog ⟨some t, .assign (.tmp i), ty, pos, af, none⟩ a X K Q := by
  have h := ev_tmp h1
  go_simp; exact hK

end Go.Proofs.Ytjhdnachbahbmaa
