/- What every law begins with: the code as bytes, whether it is too great, a new cursor over it, its bytes. -/
import Derived.Test.YthagjamgmlbhkaaDoorDraw2Walks
namespace Go.Proofs.YthagjamgmlbhkaaDoor
open Go.RowKit
set_option linter.unusedVariables false

/-- A new cursor's state. -/
def s0 (L : List UInt8) : Nat × Int := (0, hF L (min L.length 4000))

variable {B : Nat} {a : Option Addr} {cap : Nat} {L : List UInt8} {w : World}

theorem dr_new (hL : L.length ≤ 1048576) (hc : CodeAt B w a L) (hB : B ≤ w.heap.size) :
    Dr B a cap L w.heap.size (s0 L) (w.alloc (.cells #[.slice a L.length cap, .int .i64 0, .int .i64 (hF L (min L.length 4000))] 73)) := by
  refine ⟨hL, Nat.zero_le _, ?_, ?_, hB⟩
  · intro i hi
    obtain ⟨b, off, ha, hb, hcell⟩ := hc i hi
    exact ⟨b, off, ha, hb, ((Below.refl w.heap.size w).alloc (Nat.le_refl _) _ |>.cell (p := ⟨b, off + i, none⟩) (show b < w.heap.size by omega)).trans hcell⟩
  · show (w.heap.push _)[w.heap.size]? = _
    simp [s0]

theorem below_new {w2 : World} (o : Obj) (hg : (w.alloc o).grownBy w2 (some w.heap.size)) : Below w.heap.size w w2 := by
  refine ((Below.refl w.heap.size w).alloc (Nat.le_refl _) o).grown hg ?_ ?_
  · simp
  · intro k hk; have : w.heap.size = k := by simpa using hk
    omega

/-- What the walk is told of the code: nil, or a row of numbers that are bytes. -/
def IsRow (k : IntKind) (w : World) (a : Option Addr) (len cap : Nat) (zs : List Int) : Prop :=
  (a = none ∧ len = 0 ∧ cap = 0 ∧ zs = []) ∨
  ∃ x, a = some x ∧ len ≤ cap ∧ cap ≤ maxLen ∧ zs.length = cap ∧ (∀ i, i < zs.length → w.cell? (x.add i) = some (.int k (zs.getD i 0))) ∧ ∀ n ∈ zs, (Lit.int k n).wf = true

theorem code_of_row {w : World} {a : Option Addr} {len cap : Nat} {zs : List Int} (h : IsRow .u8 w a len cap zs) : ∃ L : List UInt8, L.length = len ∧ CodeAt w.heap.size w a L := by
  rcases h with ⟨rfl, rfl, rfl, rfl⟩ | ⟨x, rfl, hl, hm, hz, hcell, hwz⟩
  · exact ⟨[], rfl, fun i hi => by simp at hi⟩
  · refine ⟨(zs.take len).map fun z => UInt8.ofNat z.toNat, by rw [List.length_map, List.length_take]; omega, ?_⟩
    intro i hi
    have hi2 : i < len := by rw [List.length_map, List.length_take] at hi; omega
    have hc := hcell i (by omega)
    obtain ⟨b, off, spot⟩ := x
    have hspot : spot = none := by
      cases spot with
      | none => rfl
      | some q =>
        exfalso
        have h1 : w.cell? (Addr.add ⟨b, off, some q⟩ 0) = _ := hcell 0 (by omega)
        simp [Addr.add, World.cell?] at h1
        split at h1 <;> simp at h1
    subst hspot
    have ea : Addr.add ⟨b, off, none⟩ i = ⟨b, off + i, none⟩ := by unfold Addr.add; split <;> simp_all
    rw [ea] at hc
    have hlt := World.block_lt_of_cell? w _ hc
    refine ⟨b, off, rfl, hlt, ?_⟩
    rw [hc]
    have hzi : i < zs.length := by omega
    have hw := hwz zs[i] (List.getElem_mem hzi)
    have hb : 0 ≤ zs[i] ∧ zs[i] ≤ 255 := by simpa [Lit.wf, IntKind.min, IntKind.max, IntKind.signed, IntKind.bits] using hw
    have e1 : zs.getD i 0 = zs[i] := by rw [List.getD_eq_getElem?_getD, List.getElem?_eq_getElem hzi]; rfl
    have e2 : cb ((zs.take len).map fun z => UInt8.ofNat z.toNat) i = zs[i] := by
      unfold cb
      rw [List.getElem?_map, List.getElem?_take, if_pos hi2, List.getElem?_eq_getElem hzi]
      show ((UInt8.ofNat zs[i].toNat).toNat : Int) = _
      rw [UInt8.toNat_ofNat']; omega
    rw [e1, e2]

theorem ret_bool {a b : Bool} (h : a = b) : Ending.returned (.bool a) = .returned (.bool b) := by rw [h]

theorem big_calls (a : Option Addr) (len cap : Nat) (w : World) (h : len ≤ 9223372036854775807) :
    Calls Tryd.prog 9 #[.slice a len cap] w fun e w' => e = .returned (.bool (decide (1048576 < len))) ∧ w' = w := by
  go_enter Tryd.func9, Tryd.ntmps9
  go_wp2
  go_ret
  exact ⟨ret_bool (by rw [decide_eq_decide]; omega), rfl⟩

theorem code_below {B : Nat} {w w' : World} {a : Option Addr} {L : List UInt8} (h : CodeAt B w a L) (hb : Below B w w') : CodeAt B w' a L := by
  intro i hi
  obtain ⟨b, off, ha, hbB, hc⟩ := h i hi
  exact ⟨b, off, ha, hbB, (hb.cell (p := ⟨b, off + i, none⟩) hbB).trans hc⟩

end Go.Proofs.YthagjamgmlbhkaaDoor
