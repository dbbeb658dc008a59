/- What spec.Crc answers, at every text of at most 2^21 bytes. -/
import Derived.Test.YtcjpepdagnifiaaDoorRows
import Derived.Test.YtcjpepdagnifiaaDoorCrcMath
import Derived.WalkKit
import Derived.ProofKit
namespace Go.Proofs.YtcjpepdagnifiaaDoor
open Go.RowKit
set_option linter.unusedVariables false

theorem crc_take (s : ByteArray) (k c : Nat) (h : k < s.size) : crcL (s.data.toList.take (k + 1)) c = crcB s[k] (crcL (s.data.toList.take k) c) := by
  rw [List.take_succ_eq_append_getElem (by simpa using h), crcL_snoc]; rfl

/-- The sum's outcome, of its bytes. -/
def crcV (l : List UInt8) : Int := 4294967295 - (crcL l 4294967295 : Int)

set_option maxRecDepth 100000 in
theorem sCrc_calls (s : ByteArray) (w : World) (hs : s.size ≤ 2097152) :
    Calls Tryd.prog 85 #[.string s] w fun e w' => e = .returned (.int .i64 (crcV s.data.toList)) ∧ w' = w := by
  go_enter Tryd.func85, Tryd.ntmps85
  go_wp2
  go_loop [3, 4] (fun x i => ∃ k : Nat, k ≤ s.size ∧ i = .int .i64 k ∧ x = .int .i64 ((crcL (s.data.toList.take k) 4294967295 : Nat) : Int)) (fun _ i => s.size - (intOf i).toNat)
  case atStart => exact ⟨0, Nat.zero_le _, rfl, rfl⟩
  case round =>
    obtain ⟨k, hk, rfl, rfl⟩ := hrel
    have hC := crcL_lt (s.data.toList.take k) 4294967295 (by decide)
    by_cases hlt : k < s.size
    · have HS : Hid (_ = _) := crc_take s k 4294967295 hlt
      generalize crcL (s.data.toList.take k) 4294967295 = C at *
      have hb := UInt8.toNat_lt s[k]
      have hx := xor_i64 C s[k].toNat hC (by omega)
      have hD := Nat.xor_lt_two_pow hC (byte_lt s[k])
      go_wp2
      go_loop [3, 5] (fun x i => ∃ j : Nat, j ≤ 8 ∧ i = .int .i64 j ∧ x = .int .i64 ((stpN j (C ^^^ s[k].toNat) : Nat) : Int)) (fun _ i => 8 - (intOf i).toNat)
      case atStart => exact ⟨0, by omega, rfl, rfl⟩
      case round =>
        obtain ⟨j, hj, rfl, rfl⟩ := hrel
        have hv := stpN_lt j _ hD
        by_cases h8 : j < 8
        · have HN : Hid (_ = _) := stpN_succ j (C ^^^ s[k].toNat)
          generalize stpN j (C ^^^ s[k].toNat) = v at *
          by_cases ho : v % 2 = 1
          · have HO : Hid (_ = _) := half_i64 v hv ho
            have q : ((v : Int) % 2 == 1) = true := by rw [beq_iff_eq]; omega
            go_wp2
            go_round
            case rel => exact ⟨j + 1, by omega, by go_num, by rw [HN.out, HO.out]⟩
            case measure => simp [intOf]; omega
          · have HO : Hid (_ = _) := half_even v ho
            have q : ((v : Int) % 2 == 1) = false := by rw [beq_eq_false_iff_ne]; omega
            go_wp2
            go_round
            case rel => exact ⟨j + 1, by omega, by go_num, by rw [HN.out, HO.out]⟩
            case measure => simp [intOf]; omega
        · obtain rfl : j = 8 := by omega
          go_wp2
          go_round
          case rel => exact ⟨k + 1, by omega, by go_num, by rw [HS.out]; rfl⟩
          case measure => simp [intOf]; omega
    · obtain rfl : k = s.size := by omega
      have HE : Hid (s.data.toList.take s.size = s.data.toList) := List.take_of_length_le (by rw [Array.length_toList]; exact Nat.le_refl _)
      go_wp2
      go_ret
      exact ⟨by rw [HE.out]; rfl, rfl⟩

end Go.Proofs.YtcjpepdagnifiaaDoor
