/- What impl.put does to a row of bytes that its caller made: it lays the bytes behind those that are there, and tells where the next ones go. -/
import Derived.Test.YtmpbmagbbnlhaabRows
import Derived.Test.YtmpbmagbbnlhaabFixMath
import Derived.WalkKit
import Derived.ProofKit
import Derived.Laws.CopyOwn
namespace Go.Proofs.Ytmpbmagbbnlhaab
open Go.RowKit
set_option linter.unusedVariables false

def byteV (b : UInt8) : Value := .int .u8 (b.toNat : Int)
/-- A row of L bytes: those of P, and noughts behind. -/
def rowB (L : Nat) (P : List UInt8) : List Value := (P ++ List.replicate (L - P.length) 0).map byteV

theorem rowB_length (L : Nat) (P : List UInt8) (h : P.length ≤ L) : (rowB L P).length = L := by
  simp [rowB]; omega

theorem rowB_splice (L : Nat) (P Y : List UInt8) (h : P.length + Y.length ≤ L) : splice (rowB L P) P.length (Y.map byteV) = rowB L (P ++ Y) := by
  unfold splice rowB
  rw [← List.map_take, ← List.map_drop, ← List.map_append, ← List.map_append]
  congr 1
  rw [List.length_map, List.take_left', List.drop_append, List.drop_eq_nil_of_le (by omega), List.drop_replicate]
  · simp
    omega
  · rfl

theorem ret_int {k : IntKind} {a b : Int} (h : a = b) : Ending.returned (.int k a) = .returned (.int k b) := by rw [h]
theorem info_u8 : (Try.prog.info? 5).map (·.size) = some 1 := by kernel_rfl

theorem info5 : (Try.prog.info? 5).map (fun i => (i.zero, i.size, i.bytes)) = some (some (.int .u8 0), 1, 1) := by kernel_rfl

/-- A row of noughts, made. -/
theorem make_row (L : Nat) (hL : L ≤ 16777216) (u : World) :
    (Instr.makeSlice 27 (.int .i64 (L : Int)) (.int .i64 (L : Int))).run Try.prog u = .ok (.slice (some ⟨u.heap.size, 0, none⟩) L L) (u.alloc (.cells (rowB L []).toArray 5)) := by
  obtain ⟨i0, hi, hz0, hz1, hz2⟩ := info_parts info5
  have h := run_make (P := Try.prog) u 27 5 i0 (.int .u8 0) Try.underlying27 hi hz0 .i64 .i64 (L : Int) (L : Int) (by omega) (Int.le_refl _) (by rw [hz2]; omega) (by omega)
  have e : ((L : Int)).toNat = L := by omega
  rw [e, hz1, Nat.mul_one] at h
  rw [h]
  have e2 : madeCells (Value.int IntKind.u8 0).cells L = (rowB L []).toArray := by
    apply Array.toList_inj.1
    have h3 : (Value.int IntKind.u8 0).cells = #[Value.int IntKind.u8 0] := by simp [Value.cells]
    rw [h3, toList_madeCells_one]
    simp [rowB, byteV]
  rw [e2]

theorem heap_alloc_old (w : World) (o : Obj) (g : Nat) (x : Obj) (h : w.heap[g]? = some x) : (w.alloc o).heap[g]? = some x := by
  have hlt : g < w.heap.size := (Array.getElem?_eq_some_iff.1 h).1
  show (w.heap.push o)[g]? = some x
  rw [Array.getElem?_push_lt hlt]
  rw [Array.getElem?_eq_getElem hlt] at h
  exact h

theorem src_one (w : World) (x : Int) (b : UInt8) (h : x = (b.toNat : Int)) : ∀ j v, ([b].map byteV)[j]? = some v → (w.alloc (.cells #[.int .u8 x] 5)).cell? (Addr.add ⟨w.heap.size, 0, none⟩ j) = some v := by
  intro j v hj
  match j, hj with
  | 0, hj =>
    rw [show (Addr.add ⟨w.heap.size, 0, none⟩ 0) = ⟨w.heap.size, 0, none⟩ from rfl, World.cell?_alloc_mark]
    simpa [byteV, h] using hj
  | j + 1, hj => simp at hj

/-- The text of the first bytes of such a row. -/
theorem conv_row (L g cap : Nat) (P : List UInt8) (w : World) (hg : w.heap[g]? = some (.cells (rowB L P).toArray 5 (0, 0))) :
    (convert 27 9 (.slice (some ⟨g, 0, none⟩) P.length cap)).run Try.prog w = .ok (.string (txt P)) w := by
  refine run_convert_bytes_back (P := Try.prog) w 27 9 5 ⟨g, 0, none⟩ cap P Try.underlying27 Try.underlying5 Try.underlying9 ?_
  intro j hj
  have ea : (Addr.add ⟨g, 0, none⟩ j) = ⟨g, j, none⟩ := by unfold Addr.add; split <;> simp_all
  rw [ea]
  have e : (rowB L P)[j]? = some (byteV P[j]) := by
    unfold rowB
    rw [List.getElem?_map, List.getElem?_append_left hj, List.getElem?_eq_getElem hj]
    rfl
  simp only [World.cell?, hg, List.getElem?_toArray, e]
  rfl

end Go.Proofs.Ytmpbmagbbnlhaab
