/- What the law on numbers needs of the code and of each number. -/
import Derived.Test.YtdkdjelbgegmeabDoorNumWalks
namespace Go.Proofs.YtdkdjelbgegmeabDoor
open Go.RowKit
set_option linter.unusedVariables false

/-- What the walk is told of the code: nil, or a row of numbers that are bytes. -/
def IsRow (k : IntKind) (w : World) (a : Option Addr) (len cap : Nat) (zs : List Int) : Prop :=
  (a = none ∧ len = 0 ∧ cap = 0 ∧ zs = []) ∨
  ∃ x, a = some x ∧ len ≤ cap ∧ cap ≤ maxLen ∧ zs.length = cap ∧ (∀ i, i < zs.length → w.cell? (x.add i) = some (.int k (zs.getD i 0))) ∧ ∀ n ∈ zs, (Lit.int k n).wf = true

theorem code_of_row {w : World} {a : Option Addr} {len cap : Nat} {zs : List Int} (h : IsRow .u8 w a len cap zs) : ∃ L : List UInt8, L.length = len ∧ CodeAt w.heap.size w a L := by
  rcases h with ⟨rfl, rfl, rfl, rfl⟩ | ⟨x, rfl, hl, hm, hz, hcell, hwz⟩
  · exact ⟨[], rfl, fun i hi => by simp at hi⟩
  · refine ⟨(zs.take len).map fun z => UInt8.ofNat z.toNat, by rw [List.length_map, List.length_take]; omega, ?_⟩
    intro i hi
    have hi2 : i < len := by rw [List.length_map, List.length_take] at hi; omega
    have hc := hcell i (by omega)
    obtain ⟨b, off, spot⟩ := x
    have hspot : spot = none := by
      cases spot with
      | none => rfl
      | some q =>
        exfalso
        have h1 : w.cell? (Addr.add ⟨b, off, some q⟩ 0) = _ := hcell 0 (by omega)
        simp [Addr.add, World.cell?] at h1
        split at h1 <;> simp at h1
    subst hspot
    have ea : Addr.add ⟨b, off, none⟩ i = ⟨b, off + i, none⟩ := by unfold Addr.add; split <;> simp_all
    rw [ea] at hc
    have hlt := World.block_lt_of_cell? w _ hc
    refine ⟨b, off, rfl, hlt, ?_⟩
    rw [hc]
    have hzi : i < zs.length := by omega
    have hw := hwz zs[i] (List.getElem_mem hzi)
    have hb : 0 ≤ zs[i] ∧ zs[i] ≤ 255 := by simpa [Lit.wf, IntKind.min, IntKind.max, IntKind.signed, IntKind.bits] using hw
    have e1 : zs.getD i 0 = zs[i] := by rw [List.getD_eq_getElem?_getD, List.getElem?_eq_getElem hzi]; rfl
    have e2 : cb ((zs.take len).map fun z => UInt8.ofNat z.toNat) i = zs[i] := by
      unfold cb
      rw [List.getElem?_map, List.getElem?_take, if_pos hi2, List.getElem?_eq_getElem hzi]
      show ((UInt8.ofNat zs[i].toNat).toNat : Int) = _
      rw [UInt8.toNat_ofNat']; omega
    rw [e1, e2]

theorem ret_bool {a b : Bool} (h : a = b) : Ending.returned (.bool a) = .returned (.bool b) := by rw [h]

theorem big_calls (a : Option Addr) (len cap : Nat) (w : World) (h : len ≤ 9223372036854775807) :
    Calls Tryd.prog 4 #[.slice a len cap] w fun e w' => e = .returned (.bool (decide (1048576 < len))) ∧ w' = w := by
  go_enter Tryd.func4, Tryd.ntmps4
  go_wp2
  go_ret
  exact ⟨ret_bool (by rw [decide_eq_decide]; omega), rfl⟩

theorem code_below {B : Nat} {w w' : World} {a : Option Addr} {L : List UInt8} (h : CodeAt B w a L) (hb : Below B w w') : CodeAt B w' a L := by
  intro i hi
  obtain ⟨b, off, ha, hbB, hc⟩ := h i hi
  exact ⟨b, off, ha, hbB, (hb.cell (p := ⟨b, off + i, none⟩) hbB).trans hc⟩

/-- What the law's tests ask of a number n, a text T behind and a drawn text R: one of two answers each. -/
theorem f1_in (n : Int) (h : 0 ≤ n ∧ n ≤ 562949953421311) : ¬ (txt (varZ n)).toList = [] ∧ (txt (varZ n)).toList.isEmpty = false := by
  have e : (txt (varZ n)).toList = varB 6 n.toNat := by rw [varZ_in n h]; unfold txt; rw [ByteArray.toList_mk]
  rw [e]
  refine ⟨varB_ne _ _, ?_⟩
  cases hr : varB 6 n.toNat with
  | nil => exact absurd hr (varB_ne _ _)
  | cons c r => rfl
theorem f1_out (n : Int) (h : ¬ (0 ≤ n ∧ n ≤ 562949953421311)) : (txt (varZ n)).toList = [] := by rw [varZ_out n h]; unfold txt; rw [ByteArray.toList_mk]
theorem g12 (n : Int) (T : List UInt8) (h : 0 ≤ n ∧ n ≤ 562949953421311) : ((rdv (varZ n ++ T)).1 : Int) = n ∧ ((rdv (varZ n ++ T)).2 : Int) = ((txt (varZ n)).size : Int) := by
  rw [varZ_in n h, rdv_var n.toNat T (by omega), txt_size]
  exact ⟨by show (n.toNat : Int) = n; omega, rfl⟩
theorem fixZ_in (n : Int) (h : 0 ≤ n ∧ n < 72057594037927936) : fixZ n = low n.toNat 7 := by unfold fixZ; rw [if_pos h]
theorem f2_in (n : Int) (h : 0 ≤ n ∧ n < 72057594037927936) : ¬ (txt (fixZ n)).toList = [] ∧ (txt (fixZ n)).toList.isEmpty = false := by
  have e : (txt (fixZ n)).toList = low n.toNat 7 := by rw [fixZ_in n h]; unfold txt; rw [ByteArray.toList_mk]
  rw [e]
  exact ⟨by simp [low], by simp [low]⟩
theorem f2_out (n : Int) (h : ¬ (0 ≤ n ∧ n < 72057594037927936)) : (txt (fixZ n)).toList = [] := by
  have e : fixZ n = [] := by unfold fixZ; rw [if_neg h]
  rw [e]; unfold txt; rw [ByteArray.toList_mk]
theorem fixZ_le (n : Int) : (fixZ n).length ≤ 7 := by
  unfold fixZ; split
  · rw [low_length]; omega
  · simp
theorem g345 (n : Int) (T : List UInt8) (h : 0 ≤ n ∧ n < 72057594037927936) : rf7 (fixZ n ++ T) = n ∧ decide (7 ≤ (fixZ n ++ T).length) = true ∧ ((txt (fixZ n)).size : Int) = 7 := by
  have hl : (fixZ n).length = 7 := by rw [fixZ_in n h, low_length]
  have h7 : 7 ≤ (fixZ n ++ T).length := by rw [List.length_append]; omega
  refine ⟨?_, by simpa using h7, by rw [txt_size, hl]; rfl⟩
  unfold rf7
  rw [if_pos h7, fixZ_in n h, rfv_fix n.toNat T]
  · omega
  · unfold sh
    have e7 : (256 ^ 7 : Nat) = 72057594037927936 := by decide
    rw [e7]; exact Nat.div_eq_of_lt (by omega)
theorem g6_in (n : Int) (h : -1000000000 < n ∧ n < 1000000000) : okD (Lib.itoa n) = true ∧ ansN (Lib.itoa n) = n := ⟨by rw [okD_itoa]; simpa using h, ansN_itoa n h⟩
theorem g6_out (n : Int) (h : ¬ (-1000000000 < n ∧ n < 1000000000)) : okD (Lib.itoa n) = false := by rw [okD_itoa]; simpa using h
theorem tail_eq (R : List UInt8) (j : Nat) (v : Int) (h : varZ v = R.take j) : ((txt (varZ v)).toList == ((txt R).extract 0 j).toList) = true := by
  rw [ext_to, h]; simp

end Go.Proofs.YtdkdjelbgegmeabDoor
