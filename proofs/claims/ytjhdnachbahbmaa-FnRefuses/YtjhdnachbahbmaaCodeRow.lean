/- A law's code without the specification's draws: as bytes, whether it is too great, its bytes by number. -/
import Derived.Test.YtjhdnachbahbmaaRfWalks
import Derived.WalkKit
namespace Go.Proofs.Ytjhdnachbahbmaa
open Go.RowKit
set_option linter.unusedVariables false

theorem ret_int1 {k : IntKind} {a b : Int} (h : a = b) : Ending.returned (.int k a) = .returned (.int k b) := by rw [h]
def cb (L : List UInt8) (i : Nat) : Int := ((L[i]?.getD 0).toNat : Int)
theorem cb_bd (L : List UInt8) (i : Nat) : 0 ≤ cb L i ∧ cb L i ≤ 255 := by unfold cb; have := UInt8.toNat_lt (L[i]?.getD 0); omega
/-- The code's bytes lie below block B. -/
def CodeAt (B : Nat) (w : World) (a : Option Addr) (L : List UInt8) : Prop :=
  ∀ i, i < L.length → ∃ b off, a = some ⟨b, off, none⟩ ∧ b < B ∧ w.cell? ⟨b, off + i, none⟩ = some (.int .u8 (cb L i))

/-- What the walk is told of the code: nil, or a row of numbers that are bytes. -/
def IsRow (k : IntKind) (w : World) (a : Option Addr) (len cap : Nat) (zs : List Int) : Prop :=
  (a = none ∧ len = 0 ∧ cap = 0 ∧ zs = []) ∨
  ∃ x, a = some x ∧ len ≤ cap ∧ cap ≤ maxLen ∧ zs.length = cap ∧ (∀ i, i < zs.length → w.cell? (x.add i) = some (.int k (zs.getD i 0))) ∧ ∀ n ∈ zs, (Lit.int k n).wf = true

theorem code_of_row {w : World} {a : Option Addr} {len cap : Nat} {zs : List Int} (h : IsRow .u8 w a len cap zs) : ∃ L : List UInt8, L.length = len ∧ CodeAt w.heap.size w a L := by
  rcases h with ⟨rfl, rfl, rfl, rfl⟩ | ⟨x, rfl, hl, hm, hz, hcell, hwz⟩
  · exact ⟨[], rfl, fun i hi => by simp at hi⟩
  · refine ⟨(zs.take len).map fun z => UInt8.ofNat z.toNat, by rw [List.length_map, List.length_take]; omega, ?_⟩
    intro i hi
    have hi2 : i < len := by rw [List.length_map, List.length_take] at hi; omega
    have hc := hcell i (by omega)
    obtain ⟨b, off, spot⟩ := x
    have hspot : spot = none := by
      cases spot with
      | none => rfl
      | some q =>
        exfalso
        have h1 : w.cell? (Addr.add ⟨b, off, some q⟩ 0) = _ := hcell 0 (by omega)
        simp [Addr.add, World.cell?] at h1
        split at h1 <;> simp at h1
    subst hspot
    have ea : Addr.add ⟨b, off, none⟩ i = ⟨b, off + i, none⟩ := by unfold Addr.add; split <;> simp_all
    rw [ea] at hc
    have hlt := World.block_lt_of_cell? w _ hc
    refine ⟨b, off, rfl, hlt, ?_⟩
    rw [hc]
    have hzi : i < zs.length := by omega
    have hw := hwz zs[i] (List.getElem_mem hzi)
    have hb : 0 ≤ zs[i] ∧ zs[i] ≤ 255 := by simpa [Lit.wf, IntKind.min, IntKind.max, IntKind.signed, IntKind.bits] using hw
    have e1 : zs.getD i 0 = zs[i] := by rw [List.getD_eq_getElem?_getD, List.getElem?_eq_getElem hzi]; rfl
    have e2 : cb ((zs.take len).map fun z => UInt8.ofNat z.toNat) i = zs[i] := by
      unfold cb
      rw [List.getElem?_map, List.getElem?_take, if_pos hi2, List.getElem?_eq_getElem hzi]
      show ((UInt8.ofNat zs[i].toNat).toNat : Int) = _
      rw [UInt8.toNat_ofNat']; omega
    rw [e1, e2]

theorem ret_bool {a b : Bool} (h : a = b) : Ending.returned (.bool a) = .returned (.bool b) := by rw [h]

theorem big_calls (a : Option Addr) (len cap : Nat) (w : World) (h : len ≤ 9223372036854775807) :
    Calls Try.prog 4 #[.slice a len cap] w fun e w' => e = .returned (.bool (decide (1048576 < len))) ∧ w' = w := by
  go_enter Try.func4, Try.ntmps4
  go_wp2
  go_ret
  exact ⟨ret_bool (by rw [decide_eq_decide]; omega), rfl⟩

theorem code_below {B : Nat} {w w' : World} {a : Option Addr} {L : List UInt8} (h : CodeAt B w a L) (hb : Below B w w') : CodeAt B w' a L := by
  intro i hi
  obtain ⟨b, off, ha, hbB, hc⟩ := h i hi
  exact ⟨b, off, ha, hbB, (hb.cell (p := ⟨b, off + i, none⟩) hbB).trans hc⟩

/-- Byte j of the code, and behind its end a number of its own. -/
def atZ (L : List UInt8) (j : Nat) : Int := if j < L.length then cb L j else ((j : Int) * 37 + (L.length : Int) * 11) % 256
theorem atZ_bd (L : List UInt8) (j : Nat) : 0 ≤ atZ L j ∧ atZ L j ≤ 255 := by
  unfold atZ; split
  · exact cb_bd _ _
  · omega

theorem at_calls (B : Nat) (a : Option Addr) (cap : Nat) (L : List UInt8) (j : Nat) (w : World) (hL : L.length ≤ 1048576) (hj : j ≤ 1048576) (hc : CodeAt B w a L) :
    Calls Try.prog 5 #[.slice a L.length cap, .int .i64 (j : Int)] w fun e w' => e = .returned (.int .i64 (atZ L j)) ∧ w' = w := by
  have HC : Hid (CodeAt B w a L) := hc
  clear hc
  by_cases hlt : j < L.length
  · obtain ⟨b, off, rfl, hb, hcell⟩ := HC.out j hlt
    have hq := cb_bd L j
    have HE : Hid (atZ L j = cb L j) := by show _ = _; unfold atZ; rw [if_pos hlt]
    go_enter Try.func5, Try.ntmps5
    go_wp2
    go_ret
    exact ⟨ret_int1 HE.out.symm, rfl⟩
  · have HE : Hid (atZ L j = ((j : Int) * 37 + (L.length : Int) * 11) % 256) := by show _ = _; unfold atZ; rw [if_neg hlt]
    go_enter Try.func5, Try.ntmps5
    go_wp2
    go_ret
    exact ⟨ret_int1 HE.out.symm, rfl⟩

end Go.Proofs.Ytjhdnachbahbmaa
