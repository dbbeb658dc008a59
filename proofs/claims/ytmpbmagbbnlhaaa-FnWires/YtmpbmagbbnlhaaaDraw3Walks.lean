/- What l1PickInt and l1Num do. -/
import Derived.Test.YtmpbmagbbnlhaaaDraw2Walks
import Derived.Laws.IdiomStrings
namespace Go.Proofs.Ytmpbmagbbnlhaaa
open Go.RowKit
set_option linter.unusedVariables false

variable {B : Nat} {a : Option Addr} {cap : Nat} {L : List UInt8} {g : Nat} {s : Nat × Int} {w : World}

theorem pick_calls (p m : Nat) (zs : List Int) (hz : ∀ k, k < m → w.cell? ⟨p, k, none⟩ = some (.int .i64 (zs.getD k 0))) (hp : p ≠ g) (hm : 1 ≤ m) (hm2 : m ≤ 1000) (d : Dr B a cap L g s w) :
    Calls Try.prog 35 #[.pointer (some ⟨g, 0, none⟩), .slice (some ⟨p, 0, none⟩) m m] w fun e w' => e = .returned (.int .i64 (pickZ zs (bl L s m))) ∧ Dr B a cap L g (blS L s m) w' ∧ w.grownBy w' (some g) := by
  have D : Hid (Dr B a cap L g s w) := d
  have hb := bl_bd L s m hm
  have HZ : Hid (w.cell? ⟨p, (bl L s m).toNat, none⟩ = some (.int .i64 (pickZ zs (bl L s m)))) := hz _ (by omega)
  clear d hz
  go_enter Try.func35, Try.ntmps35
  go_wp2_with fail
  refine (below_calls m hm (by omega) D.out).mono ?_
  rintro e w1 ⟨rfl, D1, G1⟩
  have hz1 := G1.cell HZ.out (by simpa using hp)
  go_wp2
  go_ret
  exact ⟨rfl, D1, G1⟩

theorem nums_row (w : World) (k : Nat) (hk : k < 17) : (w.alloc (.cells (nums.map (Value.int .i64)).toArray 3)).cell? ⟨w.heap.size, k, none⟩ = some (.int .i64 (nums.getD k 0)) := by
  rw [World.cell?_alloc_mark, List.getElem?_toArray, List.getElem?_map]
  have h : k < nums.length := hk
  rw [List.getD_eq_getElem?_getD, List.getElem?_eq_getElem h]
  rfl

theorem grown_alloc {w w1 : World} {g : Nat} (o : Obj) (h1 : w.grownBy w1 (some g)) : w.grownBy (w1.alloc o) (some g) := grown_trans h1 (World.grownBy_alloc w1 o (some g))
theorem dr_alloc (o : Obj) (d : Dr B a cap L g s w) : Dr B a cap L g s (w.alloc o) := by
  have hlt : g < w.heap.size := (Array.getElem?_eq_some_iff.1 d.cur).1
  refine d.on d.used ?_ (World.grownBy_alloc w o (some g))
  show (w.heap.push o)[g]? = _
  rw [Array.getElem?_push_lt hlt]
  have := d.cur
  unfold CurAt at this
  rw [Array.getElem?_eq_getElem hlt] at this
  exact this
theorem dr_ne (d : Dr B a cap L g s w) : w.heap.size ≠ g := by
  have hlt : g < w.heap.size := (Array.getElem?_eq_some_iff.1 d.cur).1
  omega

end Go.Proofs.Ytmpbmagbbnlhaaa
