/- What impl.put does to a row of bytes that its caller made: it lays the bytes behind those that are there, and tells where the next ones go. -/
import Derived.Test.YtcjpepdagnifiaaDoorRows
import Derived.Test.YtcjpepdagnifiaaDoorFixMath
import Derived.WalkKit
import Derived.ProofKit
import Derived.Laws.CopyOwn
namespace Go.Proofs.YtcjpepdagnifiaaDoor
open Go.RowKit
set_option linter.unusedVariables false

def byteV (b : UInt8) : Value := .int .u8 (b.toNat : Int)
/-- A row of L bytes: those of P, and noughts behind. -/
def rowB (L : Nat) (P : List UInt8) : List Value := (P ++ List.replicate (L - P.length) 0).map byteV

theorem rowB_length (L : Nat) (P : List UInt8) (h : P.length ≤ L) : (rowB L P).length = L := by
  simp [rowB]; omega

theorem rowB_splice (L : Nat) (P Y : List UInt8) (h : P.length + Y.length ≤ L) : splice (rowB L P) P.length (Y.map byteV) = rowB L (P ++ Y) := by
  unfold splice rowB
  rw [← List.map_take, ← List.map_drop, ← List.map_append, ← List.map_append]
  congr 1
  rw [List.length_map, List.take_left', List.drop_append, List.drop_eq_nil_of_le (by omega), List.drop_replicate]
  · simp
    omega
  · rfl

theorem ret_int {k : IntKind} {a b : Int} (h : a = b) : Ending.returned (.int k a) = .returned (.int k b) := by rw [h]
theorem info_u8 : (Tryd.prog.info? 5).map (·.size) = some 1 := by kernel_rfl

theorem info5 : (Tryd.prog.info? 5).map (fun i => (i.zero, i.size, i.bytes)) = some (some (.int .u8 0), 1, 1) := by kernel_rfl

/-- A row of noughts, made. -/
theorem make_row (L : Nat) (hL : L ≤ 16777216) (u : World) :
    (Instr.makeSlice 96 (.int .i64 (L : Int)) (.int .i64 (L : Int))).run Tryd.prog u = .ok (.slice (some ⟨u.heap.size, 0, none⟩) L L) (u.alloc (.cells (rowB L []).toArray 5)) := by
  obtain ⟨i0, hi, hz0, hz1, hz2⟩ := info_parts info5
  have h := run_make (P := Tryd.prog) u 96 5 i0 (.int .u8 0) Tryd.underlying96 hi hz0 .i64 .i64 (L : Int) (L : Int) (by omega) (Int.le_refl _) (by rw [hz2]; omega) (by omega)
  have e : ((L : Int)).toNat = L := by omega
  rw [e, hz1, Nat.mul_one] at h
  rw [h]
  have e2 : madeCells (Value.int IntKind.u8 0).cells L = (rowB L []).toArray := by
    apply Array.toList_inj.1
    have h3 : (Value.int IntKind.u8 0).cells = #[Value.int IntKind.u8 0] := by simp [Value.cells]
    rw [h3, toList_madeCells_one]
    simp [rowB, byteV]
  rw [e2]

theorem heap_alloc_old (w : World) (o : Obj) (g : Nat) (x : Obj) (h : w.heap[g]? = some x) : (w.alloc o).heap[g]? = some x := by
  have hlt : g < w.heap.size := (Array.getElem?_eq_some_iff.1 h).1
  show (w.heap.push o)[g]? = some x
  rw [Array.getElem?_push_lt hlt]
  rw [Array.getElem?_eq_getElem hlt] at h
  exact h

theorem src_one (w : World) (x : Int) (b : UInt8) (h : x = (b.toNat : Int)) : ∀ j v, ([b].map byteV)[j]? = some v → (w.alloc (.cells #[.int .u8 x] 5)).cell? (Addr.add ⟨w.heap.size, 0, none⟩ j) = some v := by
  intro j v hj
  match j, hj with
  | 0, hj =>
    rw [show (Addr.add ⟨w.heap.size, 0, none⟩ 0) = ⟨w.heap.size, 0, none⟩ from rfl, World.cell?_alloc_mark]
    simpa [byteV, h] using hj
  | j + 1, hj => simp at hj

/-- The text of the first bytes of such a row. -/
theorem conv_row (L g cap : Nat) (P : List UInt8) (w : World) (hg : w.heap[g]? = some (.cells (rowB L P).toArray 5 (0, 0))) :
    (convert 96 9 (.slice (some ⟨g, 0, none⟩) P.length cap)).run Tryd.prog w = .ok (.string (txt P)) w := by
  refine run_convert_bytes_back (P := Tryd.prog) w 96 9 5 ⟨g, 0, none⟩ cap P Tryd.underlying96 Tryd.underlying5 Tryd.underlying9 ?_
  intro j hj
  have ea : (Addr.add ⟨g, 0, none⟩ j) = ⟨g, j, none⟩ := by unfold Addr.add; split <;> simp_all
  rw [ea]
  have e : (rowB L P)[j]? = some (byteV P[j]) := by
    unfold rowB
    rw [List.getElem?_map, List.getElem?_append_left hj, List.getElem?_eq_getElem hj]
    rfl
  simp only [World.cell?, hg, List.getElem?_toArray, e]
  rfl

theorem put_calls (L g : Nat) (P Y : List UInt8) (p : Int) (m cap : Nat) (ad : Addr) (w : World) (hg : w.heap[g]? = some (.cells (rowB L P).toArray 5 (0, 0)))
    (hp : p = (P.length : Int)) (hm : m = Y.length) (hY : 0 < Y.length) (hfit : P.length + Y.length ≤ L) (hL : L ≤ 16777216)
    (hsrc : ∀ j v, (Y.map byteV)[j]? = some v → w.cell? (ad.add j) = some v) (B : Nat) (w0 : World) (hb : Below B w0 w) (hBg : B ≤ g) :
    Calls Tryd.prog 103 #[.slice (some ⟨g, 0, none⟩) L L, .int .i64 p, .slice (some ad) m cap] w fun e w' =>
      e = .returned (.int .i64 (p + (m : Int))) ∧ Hid (w'.heap[g]? = some (.cells (rowB L (P ++ Y)).toArray 5 (0, 0))) ∧ Below B w0 w' := by
  subst hp
  subst hm
  have hlt : P.length < L := by omega
  have hlt' : (P.length : Int) < (L : Int) := by omega
  obtain ⟨w1, hcp, hrow, hbel⟩ : ∃ w1, (Builtin.copy_ #[96, 96] 3 #[.slice (some ⟨g, P.length, none⟩) (L - P.length) (L - P.length), .slice (some ad) Y.length cap]).run Tryd.prog w = .ok (.int .i64 (Y.length : Int)) w1 ∧
      Hid (w1.heap[g]? = some (.cells (rowB L (P ++ Y)).toArray 5 (0, 0))) ∧ Below B w0 w1 := by
    have hr := run_copy_row (P := Tryd.prog) w 96 96 3 5 g P.length (L - P.length) (L - P.length) ad Y.length cap (rowB L P).toArray 5 (Y.map byteV) Tryd.underlying96 info_u8 hg
      (by rw [List.length_map]; show _ = min _ _; omega) hsrc (by rw [List.length_map, List.size_toArray, rowB_length L P (by omega)]; omega) (by intro v hv; obtain ⟨b, _, rfl⟩ := List.mem_map.1 hv; rfl)
    have e := rowB_splice L P Y hfit
    have e2 : (List.take P.length (rowB L P).toArray.toList ++ List.map byteV Y ++ List.drop (P.length + (List.map byteV Y).length) (rowB L P).toArray.toList) = rowB L (P ++ Y) := by
      rw [← e, List.append_assoc]; rfl
    rw [e2, List.length_map] at hr
    exact ⟨_, hr, setRow_heap w g _ _ _ _ hg, below_setRow hb hBg _⟩
  clear hg hsrc
  go_enter Tryd.func103, Tryd.ntmps103
  go_wp2
  go_ret
  exact ⟨rfl, hrow, hbel⟩

end Go.Proofs.YtcjpepdagnifiaaDoor
