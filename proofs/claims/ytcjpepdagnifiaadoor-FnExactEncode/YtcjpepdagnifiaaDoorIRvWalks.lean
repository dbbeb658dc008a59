/- What impl.ReadVar answers, at every text of at most 2^20 bytes. -/
import Derived.Test.YtcjpepdagnifiaaDoorSRvWalks
namespace Go.Proofs.YtcjpepdagnifiaaDoor
open Go.RowKit
set_option linter.unusedVariables false

theorem and127u (b : UInt8) : bits .and .u8 (b.toNat : Int) 127 = ((b.toNat % 128 : Nat) : Int) := by
  have hb := UInt8.toNat_lt b
  have h := bits_mask .u8 8 (by decide) wraps_u8 7 (by decide) (b.toNat : Int) (by omega) (by omega)
  exact h.trans (by omega)

theorem or_low (a c k : Nat) (hk : k ≤ 6) (ha : a < 128 ^ k) (hc : c < 128) : bits .or .i64 (a : Int) ((c : Int) * 2 ^ (7 * k)) = ((a + 128 ^ k * c : Nat) : Int) := by
  have e : (128 ^ k : Nat) = 2 ^ (7 * k) := by rw [Nat.pow_mul]
  have h7 : (128 ^ k : Nat) ≤ 128 ^ 6 := Nat.pow_le_pow_right (by omega) hk
  have h6 : (128 ^ 6 : Nat) = 4398046511104 := by decide
  have hx : c * 128 ^ k ≤ 127 * 4398046511104 := Nat.mul_le_mul (by omega) (by omega)
  have e1 : ((c : Int) * 2 ^ (7 * k)) = ((c * 128 ^ k : Nat) : Int) := by rw [e]; simp
  rw [e1]
  have h63 : (2 ^ 63 : Nat) = 9223372036854775808 := by decide
  have b1 := (bits_nat .i64 63 (by decide) wraps64 a (c * 128 ^ k) (by omega) (by omega)).2
  have b2 := (bits_nat .i64 63 (by decide) wraps64 (c * 128 ^ k) a (by omega) (by omega)).2
  have hy : (a : Int) < 2 ^ (7 * k) := by
    have h : ((2 ^ (7 * k) : Nat) : Int) = 2 ^ (7 * k) := by simp
    rw [← h, ← e]; omega
  have b3 := bits_join .i64 63 (by decide) wraps64 (7 * k) ((c * 128 ^ k : Nat) : Int) (a : Int) (by omega) (by rw [← e1]; simp) (by omega) (by omega) hy (by omega)
  rw [Nat.or_comm] at b1
  rw [b1.trans (b2.symm.trans b3), Nat.mul_comm]
  omega

theorem or_step (s : ByteArray) (k : Nat) (h7 : k < 7) (h : k < s.size) :
    bits .or .i64 ((vv (s.data.toList.take k) : Nat) : Int) (wrap64 (wrap64 (bits .and .u8 (s[k].toNat : Int) 127) * 2 ^ (7 * k))) = ((vv (s.data.toList.take (k + 1)) : Nat) : Int) := by
  have hl : k < s.data.toList.length := by rw [Array.length_toList]; exact h
  have hb := UInt8.toNat_lt s[k]
  have hv := vv_lt (s.data.toList.take k)
  rw [List.length_take, Nat.min_eq_left (by omega)] at hv
  rw [vv_take_succ _ k hl, and127u, IntWalk.wrap64_in ((s[k].toNat % 128 : Nat) : Int) ⟨by omega, by omega⟩]
  have e : s.data.toList[k] = s[k] := rfl
  rw [e]
  have h7' : (128 ^ k : Nat) ≤ 128 ^ 6 := Nat.pow_le_pow_right (by omega) (by omega)
  have h6 : (128 ^ 6 : Nat) = 4398046511104 := by decide
  have e2 : (128 ^ k : Nat) = 2 ^ (7 * k) := by rw [Nat.pow_mul]
  have hx : s[k].toNat % 128 * 128 ^ k ≤ 127 * 4398046511104 := Nat.mul_le_mul (by omega) (by omega)
  have e1 : ((((s[k].toNat % 128 : Nat)) : Int) * 2 ^ (7 * k)) = ((s[k].toNat % 128 * 128 ^ k : Nat) : Int) := by rw [e2]; simp
  rw [IntWalk.wrap64_in (((s[k].toNat % 128 : Nat) : Int) * 2 ^ (7 * k)) ⟨by rw [e1]; omega, by rw [e1]; omega⟩]
  exact or_low _ _ k (by omega) hv (by omega)

set_option maxRecDepth 100000 in
theorem iReadVar_calls (s : ByteArray) (w : World) (hs : s.size ≤ 1048576) :
    Calls Tryd.prog 97 #[.string s] w fun e w' => e = .returned (.tuple #[.int .i64 ((rdv s.data.toList).1 : Int), .int .i64 ((rdv s.data.toList).2 : Int)]) ∧ w' = w := by
  go_enter Tryd.func97, Tryd.ntmps97
  go_wp2
  all_goals
    go_loop [4, 9] (fun x i => ∃ k : Nat, k ≤ 7 ∧ k ≤ s.size ∧ i = .int .i64 k ∧ x = .int .i64 ((vv (s.data.toList.take k) : Nat) : Int) ∧ Hid (rdvG 7 true s.data.toList = left s.data.toList k)) (fun _ i => 7 - (intOf i).toNat)
    case atStart => exact ⟨0, by omega, by omega, rfl, rfl, (left_zero _).symm⟩
    case round =>
      obtain ⟨k, hk7, hks, rfl, rfl, HL⟩ := hrel
      by_cases hlt : k < 7 ∧ k < s.size
      · obtain ⟨hlt7, hlts⟩ := hlt
        have HS : Hid (_ = _) := or_step s k hlt7 hlts
        have hll : k < s.data.toList.length := by rw [Array.length_toList]; exact hlts
        go_wp2
        · have h9 : 128 ≤ (s[k].toNat : Int) := by assumption
          have HT := left_step _ k hlt7 hll (Int.ofNat_le.1 h9)
          go_round
          case rel => exact ⟨k + 1, by omega, by omega, by go_num, by rw [HS.out], HL.out.trans HT⟩
          case measure => simp [intOf]; omega
        · have h9 : s[k].toNat = 0 := by assumption
          have h10 : 0 < k := by assumption
          have HR := rdv_left _ _ _ HL.out (left_nought _ k hlt7 hll h9 h10)
          go_ret2
          exact ⟨ret_ii (by rw [HR]; rfl) (by rw [HR]; rfl), rfl⟩
        · have h8 : (s[k].toNat : Int) < 128 := by assumption
          have h10 : ¬ 0 < k := by assumption
          have h0 : s[k].toNat = 0 := by assumption
          have HR := rdv_left _ _ _ HL.out (left_hit _ k hlt7 hll (Int.ofNat_lt.1 h8) (.inr (by omega)))
          have HS0 : bits .or .i64 ((vv (s.data.toList.take k) : Nat) : Int) (wrap64 (wrap64 (bits .and .u8 0 127) * 2 ^ (7 * k))) = ((vv (s.data.toList.take (k + 1)) : Nat) : Int) := by
            have h := HS.out
            rw [h0] at h
            exact h
          go_ret2
          exact ⟨ret_ii (by rw [HR, HS0]; rfl) (by rw [HR]; rfl), rfl⟩
        · have h8 : (s[k].toNat : Int) < 128 := by assumption
          have h9 : ¬ s[k].toNat = 0 := by assumption
          have HR := rdv_left _ _ _ HL.out (left_hit _ k hlt7 hll (Int.ofNat_lt.1 h8) (.inl h9))
          go_ret2
          exact ⟨ret_ii (by rw [HR, HS.out]; rfl) (by rw [HR]; rfl), rfl⟩
      · have HR : Hid (_ = _) := rdv_left _ _ _ HL.out (left_end _ k (by rw [Array.length_toList]; show 7 ≤ k ∨ s.size ≤ k; omega))
        go_wp2
        go_ret2
        exact ⟨ret_ii (by rw [HR.out]; rfl) (by rw [HR.out]; rfl), rfl⟩

end Go.Proofs.YtcjpepdagnifiaaDoor
