/- What spec.l1FromHex and spec.Unhex answer, at every text of at most 2^20 bytes. -/
import Derived.Test.YtdkdjelbgegmeahHexWalks
import Derived.Test.YtdkdjelbgegmeahUnhexMath
namespace Go.Proofs.Ytdkdjelbgegmeah
open Go.RowKit
set_option linter.unusedVariables false

theorem l1FromHex_calls (x : Int) (w : World) (h0 : 0 ≤ x) (h1 : x < 256) :
    Calls Try.prog 11 #[.int .u8 x] w fun e w' => e = .returned (.int .i64 (fhZ x)) ∧ w' = w := by
  go_enter Try.func11, Try.ntmps11
  go_wp2
  go_loopw [3] (fun i wr => ∃ k : Nat, k ≤ 16 ∧ i = .int .i64 k ∧ Hid (∀ q : Nat, q < k → ((dgZ (q : Int)).toNat : Int) ≠ x) ∧ wr = w) (fun i _ => 16 - (intOf i).toNat)
  case atStart => exact ⟨0, Nat.zero_le _, rfl, (by intro q hq; omega), rfl⟩
  case round =>
    obtain ⟨k, hk, rfl, HQ, rfl⟩ := hrel
    by_cases hlt : k < 16
    · by_cases he : ((dgZ (k : Int)).toNat : Int) = x
      · have hb : (((dgZ (k : Int)).toNat : Int) == x) = true := beq_iff_eq.2 he
        have HF : Hid (fhZ x = k) := by show _ = _; rw [← he]; exact fhZ_dg k hlt
        clear he
        go_wp2_with (go_at_call 9; refine (l1Digit_calls _ _ (by omega) (by omega)).mono ?_; rintro e w' ⟨rfl, rfl⟩)
        go_ret
        exact ⟨ret_int HF.out.symm, rfl⟩
      · have hb : (((dgZ (k : Int)).toNat : Int) == x) = false := beq_eq_false_iff_ne.2 he
        go_wp2_with (go_at_call 9; refine (l1Digit_calls _ _ (by omega) (by omega)).mono ?_; rintro e w' ⟨rfl, rfl⟩)
        go_roundw
        case rel =>
          refine ⟨k + 1, by omega, by go_num, ?_, by first | trivial | rfl⟩
          intro q hq
          by_cases hqk : q = k
          · rw [hqk]; exact he
          · exact HQ.out q (by omega)
        case measure => simp [intOf]; omega
    · obtain rfl : k = 16 := by omega
      have HF : Hid (_ = _) := fhZ_none x HQ.out
      go_wp2
      go_ret
      exact ⟨ret_int HF.out.symm, rfl⟩

theorem sUnhex_odd (s : ByteArray) (w : World) (hs : s.size ≤ 1048576) (ho : s.size % 2 = 1) :
    Calls Try.prog 7 #[.string s] w fun e w' => e = .returned (.tuple #[.string (txt []), .bool false]) ∧ Below w.heap.size w w' := by
  have h1 : ((s.size : Int) % 2 == 1) = true := by rw [beq_iff_eq]; omega
  go_enter Try.func7, Try.ntmps7
  go_wp2
  go_ret2
  exact ⟨rfl, (Below.refl _ _).alloc (Nat.le_refl _) _⟩

theorem ret_sb {a c : ByteArray} {b d : Bool} (h1 : a = c) (h2 : b = d) : Ending.returned (.tuple #[.string a, .bool b]) = .returned (.tuple #[.string c, .bool d]) := by rw [h1, h2]

theorem unhex_of (l : List UInt8) (j : Nat) (P : List UInt8) (x : Option (List UInt8)) (h : unhexB l = uleft l j P) (hx : uleft l j P = x) : unhexB l = x := h.trans hx

set_option maxRecDepth 100000 in
set_option maxHeartbeats 400000 in
theorem sUnhex_even (s : ByteArray) (m : Nat) (w : World) (hs : s.size ≤ 1048576) (hm : 2 * m = s.size) :
    Calls Try.prog 7 #[.string s] w fun e w' => e = .returned (.tuple #[.string (txt ((unhexB s.data.toList).getD [])), .bool (unhexB s.data.toList).isSome]) ∧ Below w.heap.size w w' := by
  have h1 : ((s.size : Int) % 2 == 1) = false := by rw [beq_eq_false_iff_ne]; omega
  have hm1 : 2 * m ≤ s.size := by omega
  have hm2 : s.size ≤ 2 * m := by omega
  clear hm
  go_enter Try.func7, Try.ntmps7
  go_wp2
  go_loopw [4, 5] (fun v i wr => ∃ (j : Nat) (P : List UInt8), j ≤ m ∧ i = .int .i64 (2 * (j : Int)) ∧ ownB wr w.heap.size v P ∧ Hid (P.length = j) ∧ Hid (unhexB s.data.toList = uleft s.data.toList j P) ∧ Below w.heap.size w wr) (fun _ i _ => 2 * m - (intOf i).toNat)
  case atStart => exact ⟨0, [], Nat.zero_le _, rfl, ownB_new _ _ (Nat.le_refl _), rfl, (uleft_zero _).symm, (Below.refl _ _).alloc (Nat.le_refl _) _⟩
  case round =>
    obtain ⟨j, P, hj, rfl, hown, HPL, HU, hb⟩ := hrel
    by_cases hlt : j < m
    · have hi0 : 2 * j < s.size := by omega
      have hi1 : 2 * j + 1 < s.size := by omega
      have hll : 2 * j + 1 < s.data.toList.length := by rw [Array.length_toList]; exact hi1
      obtain ⟨A, hA⟩ : ∃ A, fhZ (s[2 * j].toNat : Int) = A := ⟨_, rfl⟩
      obtain ⟨B, hB⟩ : ∃ B, fhZ (s[2 * j + 1].toNat : Int) = B := ⟨_, rfl⟩
      have hA1 := fhZ_bd (s[2 * j].toNat : Int)
      have hB1 := fhZ_bd (s[2 * j + 1].toNat : Int)
      rw [hA] at hA1
      rw [hB] at hB1
      have CA : Hid (∀ w, _) := fun w => l1FromHex_calls (s[2 * j].toNat : Int) w (by omega) (by have := UInt8.toNat_lt s[2 * j]; omega)
      have CB : Hid (∀ w, _) := fun w => l1FromHex_calls (s[2 * j + 1].toNat : Int) w (by omega) (by have := UInt8.toNat_lt s[2 * j + 1]; omega)
      rw [hA] at CA
      rw [hB] at CB
      have HA : Hid (_ = _) := hA
      have HB : Hid (_ = _) := hB
      clear hA hB
      go_wp2_with fail
      refine (CA.out _).mono ?_
      rintro e w1 ⟨rfl, rfl⟩
      go_wp2_with fail
      refine (CB.out _).mono ?_
      rintro e w2 ⟨rfl, rfl⟩
      by_cases hAn : A < 0
      · have HR : Hid (_ = _) := unhex_of _ j P _ HU.out (uleft_bad _ j P hll (.inl (by have h := HA.out; exact h ▸ hAn)))
        go_wp2
        go_ret2
        exact ⟨ret_sb (by rw [HR.out]; rfl) (by rw [HR.out]; rfl), hb⟩
      · by_cases hBn : B < 0
        · have HR : Hid (_ = _) := unhex_of _ j P _ HU.out (uleft_bad _ j P hll (.inr (by have h := HB.out; exact h ▸ hBn)))
          go_wp2
          go_ret2
          exact ⟨ret_sb (by rw [HR.out]; rfl) (by rw [HR.out]; rfl), hb⟩
        · have hA0 : 0 ≤ A := by omega
          have hB0 : 0 ≤ B := by omega
          have HS : Hid (uleft s.data.toList j P = uleft s.data.toList (j + 1) (P ++ [byteOf A B])) := by
            show _ = _
            have h := uleft_step s.data.toList j P hll (by have h := HA.out; exact h ▸ hA0) (by have h := HB.out; exact h ▸ hB0)
            have e1 : fhZ (s.data.toList[2 * j].toNat : Int) = A := HA.out
            have e2 : fhZ (s.data.toList[2 * j + 1].toNat : Int) = B := HB.out
            rw [e1, e2] at h
            exact h
          have HBy : Hid (_ = _) := (byteOf_toNat A B hA0 hA1.2 hB0 hB1.2).symm
          go_wp2_with (at_builtin; refine wpList_appendB rfl _ _ rfl w.heap.size _ P rfl (ownB_alloc _ _ _ _ _ hown) ⟨w2.heap.size, 0, none⟩ [byteOf A B] 1 1 rfl rfl ?hsrc ?hlen w (hb.alloc hb.size _) (Nat.le_refl _) ?_)
          case hsrc => exact src_one w2 _ _ HBy.out
          case hlen => have := HPL.out; simp only [List.length_singleton]; omega
          · intro v1 w3 hown1 hb1
            go_wp2
            go_roundw
            case rel =>
              refine ⟨j + 1, P ++ [byteOf A B], by omega, by go_num, hown1, ?_, HU.out.trans HS.out, hb1⟩
              show _ = _
              rw [List.length_append, HPL.out]; rfl
            case measure => simp [intOf]; omega
    · obtain rfl : j = m := by omega
      have hcv := conv_own _ _ _ _ hown
      have HR : Hid (_ = _) := unhex_of _ j P _ HU.out (uleft_end _ j P (by rw [Array.length_toList]; exact hm2))
      go_wp2
      go_ret2
      exact ⟨ret_sb (by rw [HR.out]; rfl) (by rw [HR.out]; rfl), hb⟩

end Go.Proofs.Ytdkdjelbgegmeah
