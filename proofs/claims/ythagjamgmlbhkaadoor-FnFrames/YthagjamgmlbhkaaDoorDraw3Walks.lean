/- What l1PickInt and l1Num do. -/
import Derived.Test.YthagjamgmlbhkaaDoorDraw2Walks
import Derived.Laws.IdiomStrings
namespace Go.Proofs.YthagjamgmlbhkaaDoor
open Go.RowKit
set_option linter.unusedVariables false

variable {B : Nat} {a : Option Addr} {cap : Nat} {L : List UInt8} {g : Nat} {s : Nat × Int} {w : World}

theorem nums_row (w : World) (k : Nat) (hk : k < 17) : (w.alloc (.cells (nums.map (Value.int .i64)).toArray 3)).cell? ⟨w.heap.size, k, none⟩ = some (.int .i64 (nums.getD k 0)) := by
  rw [World.cell?_alloc_mark, List.getElem?_toArray, List.getElem?_map]
  have h : k < nums.length := hk
  rw [List.getD_eq_getElem?_getD, List.getElem?_eq_getElem h]
  rfl

theorem grown_alloc {w w1 : World} {g : Nat} (o : Obj) (h1 : w.grownBy w1 (some g)) : w.grownBy (w1.alloc o) (some g) := grown_trans h1 (World.grownBy_alloc w1 o (some g))
theorem dr_alloc (o : Obj) (d : Dr B a cap L g s w) : Dr B a cap L g s (w.alloc o) := by
  have hlt : g < w.heap.size := (Array.getElem?_eq_some_iff.1 d.cur).1
  refine d.on d.used ?_ (World.grownBy_alloc w o (some g))
  show (w.heap.push o)[g]? = _
  rw [Array.getElem?_push_lt hlt]
  have := d.cur
  unfold CurAt at this
  rw [Array.getElem?_eq_getElem hlt] at this
  exact this
theorem dr_ne (d : Dr B a cap L g s w) : w.heap.size ≠ g := by
  have hlt : g < w.heap.size := (Array.getElem?_eq_some_iff.1 d.cur).1
  omega

end Go.Proofs.YthagjamgmlbhkaaDoor
