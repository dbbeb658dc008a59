/- What spec.Hex and impl.Hex answer, at every text of at most 2^20 bytes. -/
import Derived.Test.YtdkdjelbgegmeabDoorOwnB
import Derived.Test.YtdkdjelbgegmeabDoorHexMath
import Derived.Test.YtdkdjelbgegmeabDoorRows
import Derived.Deep.RegionLaw
namespace Go.Proofs.YtdkdjelbgegmeabDoor
open Go.RowKit
set_option linter.unusedVariables false

theorem tdiv16 (b : UInt8) : IntKind.i64.wrap ((IntKind.i64.wrap (b.toNat : Int)).tdiv 16) = (b.toNat : Int) / 16 := by
  have hb := UInt8.toNat_lt b
  have e : IntKind.i64.wrap (b.toNat : Int) = (b.toNat : Int) := by rw [IntKind.wrap_i64]; omega
  rw [e, Int.tdiv_eq_ediv_of_nonneg (by omega), IntKind.wrap_i64]; omega
theorem tmod16 (b : UInt8) : (IntKind.i64.wrap (b.toNat : Int)).tmod 16 = (b.toNat : Int) % 16 := by
  have hb := UInt8.toNat_lt b
  have e : IntKind.i64.wrap (b.toNat : Int) = (b.toNat : Int) := by rw [IntKind.wrap_i64]; omega
  rw [e, Int.tmod_eq_emod_of_nonneg (by omega)]

theorem hexB_take (s : ByteArray) (k : Nat) (h : k < s.size) : hexB (s.data.toList.take (k + 1)) = hexB (s.data.toList.take k) ++ [dgZ ((s[k].toNat : Int) / 16), dgZ ((s[k].toNat : Int) % 16)] := by
  rw [List.take_succ_eq_append_getElem (by simpa using h), hexB_append, dgZ_div, dgZ_mod]
  rfl

set_option maxRecDepth 100000 in
set_option maxHeartbeats 400000 in
theorem iHex_calls (s : ByteArray) (w : World) (hs : s.size ≤ 1048576) :
    Calls Tryd.prog 14 #[.string s] w fun e w' => e = .returned (.string (txt (hexB s.data.toList))) ∧ Below w.heap.size w w' := by
  have hmk := make_row (2 * s.size) (by omega)
  rw [show ((2 * s.size : Nat) : Int) = 2 * (s.size : Int) from by omega] at hmk
  go_enter Tryd.func14, Tryd.ntmps14
  go_wp2
  go_loopw [4, 12] (fun a i wr => ∃ k : Nat, k ≤ s.size ∧ i = .int .i64 k ∧ a = .int .i64 (2 * (k : Int)) ∧ Hid (wr.heap[w.heap.size]? = some (.cells (rowB (2 * s.size) (hexB (s.data.toList.take k))).toArray 5 (0, 0))) ∧ Below w.heap.size w wr) (fun _ i _ => s.size - (intOf i).toNat)
  case atStart => exact ⟨0, Nat.zero_le _, rfl, rfl, (by show (w.heap.push _)[w.heap.size]? = _; simp [hexB]), (Below.refl _ _).alloc (Nat.le_refl _) _⟩
  case round =>
    obtain ⟨k, hk, rfl, rfl, hrow, hb⟩ := hrel
    by_cases hlt : k < s.size
    · have hq := UInt8.toNat_lt s[k]
      have h15 := u8_and15 (s[k].toNat : Int) (by omega) (by omega)
      go_wp2
      have hl : Hid (2 * (k : Int) = ((hexB (s.data.toList.take k)).length : Int)) := by
        show _ = _
        rw [hexB_length, List.length_take, Array.length_toList]
        show _ = ((2 * min k s.size : Nat) : Int)
        omega
      go_region_with (go_at_call 19; refine (put_calls (2 * s.size) w.heap.size (hexB (s.data.toList.take k)) [dgZ ((s[k].toNat : Int) / 16), dgZ ((s[k].toNat : Int) % 16)] _ 2 2 ⟨wr.heap.size, 0, none⟩ _ (by exact heap_alloc_old _ _ _ _ hrow.out) hl.out rfl (by simp) (by have h9 := hl.out; simp only [List.length_cons, List.length_nil]; omega) (by omega) (by exact src_two_of wr _ _ _ _ (dig_at _ (by omega) (by omega) _) (dig_at _ (by omega) (by omega) _)) w.heap.size w (by exact (hb.alloc hb.size _).drew) (Nat.le_refl _)).mono ?_; rintro e w1 ⟨rfl, hrow1, hb1⟩)
      all_goals
        go_wp2
        go_roundw
        case rel =>
          refine ⟨k + 1, by omega, by go_num, by go_num, ?_, hb1⟩
          rw [hexB_take s k hlt]
          exact hrow1
        case measure => simp [intOf]; omega
    · obtain rfl : k = s.size := by omega
      have hcv : (convert 22 9 (.slice (some ⟨w.heap.size, 0, none⟩) (2 * s.size) (2 * s.size))).run Tryd.prog wr = .ok (.string (txt (hexB s.data.toList))) wr := by
        have h := hrow.out
        rw [List.take_of_length_le (by rw [Array.length_toList]; exact Nat.le_refl _)] at h
        have h2 := conv_row (2 * s.size) w.heap.size (2 * s.size) (hexB s.data.toList) wr h
        rw [hexB_length, Array.length_toList] at h2
        exact h2
      go_wp2
      go_ret
      exact ⟨rfl, hb⟩

end Go.Proofs.YtdkdjelbgegmeabDoor
