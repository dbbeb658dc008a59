/- What impl.hexValue and impl.Unhex answer, at every text of at most 2^20 bytes. -/
import Derived.Test.YtdkdjelbgegmeabDoorSUnhexWalks
namespace Go.Proofs.YtdkdjelbgegmeabDoor
open Go.RowKit
set_option linter.unusedVariables false

theorem hexValue_calls (x : Int) (w : World) (h0 : 0 ≤ x) (h1 : x < 256) :
    Calls Tryd.prog 22 #[.int .u8 x] w fun e w' => e = .returned (.int .i64 (fhZ x)) ∧ w' = w := by
  by_cases c1 : 48 ≤ x ∧ x ≤ 57
  · obtain ⟨c2, c3⟩ := c1
    have HF : Hid (fhZ x = x - 48) := by show _ = _; unfold fhZ; rw [if_pos ⟨c2, c3⟩]
    go_enter Tryd.func22, Tryd.ntmps22
    go_wp2
    go_ret
    exact ⟨ret_int HF.out.symm, rfl⟩
  · by_cases c4 : 97 ≤ x ∧ x ≤ 102
    · obtain ⟨c5, c6⟩ := c4
      have HF : Hid (fhZ x = x - 87) := by show _ = _; unfold fhZ; rw [if_neg c1, if_pos ⟨c5, c6⟩]
      go_enter Tryd.func22, Tryd.ntmps22
      go_wp2
      go_ret
      exact ⟨ret_int (by rw [HF.out]; omega), rfl⟩
    · have HF : Hid (fhZ x = -1) := by show _ = _; unfold fhZ; rw [if_neg c1, if_neg c4]
      have c1' : x < 48 ∨ 57 < x := by omega
      have c4' : x < 97 ∨ 102 < x := by omega
      clear c1 c4
      rcases c1' with c1 | c1
      · go_enter Tryd.func22, Tryd.ntmps22
        go_wp2
        go_ret
        exact ⟨ret_int HF.out.symm, rfl⟩
      · rcases c4' with c4 | c4
        all_goals
          go_enter Tryd.func22, Tryd.ntmps22
          go_wp2
          go_ret
          exact ⟨ret_int HF.out.symm, rfl⟩

theorem hexValue_b (b : UInt8) (w : World) : Calls Tryd.prog 22 #[.int .u8 (b.toNat : Int)] w fun e w' => e = .returned (.int .i64 (fhZ (b.toNat : Int))) ∧ w' = w :=
  hexValue_calls _ w (by omega) (by have := UInt8.toNat_lt b; omega)

theorem iUnhex_odd (s : ByteArray) (w : World) (hs : s.size ≤ 1048576) (ho : s.size % 2 = 1) :
    Calls Tryd.prog 13 #[.string s] w fun e w' => e = .returned (.tuple #[.string (txt []), .bool false]) ∧ w' = w := by
  have h1 : ((s.size : Int) % 2 != 0) = true := by rw [bne_iff_ne]; omega
  go_enter Tryd.func13, Tryd.ntmps13
  go_wp2
  go_ret2
  exact ⟨rfl, rfl⟩

set_option maxRecDepth 100000 in
set_option maxHeartbeats 400000 in
theorem iUnhex_even (s : ByteArray) (m : Nat) (w : World) (hs : s.size ≤ 1048576) (hm : 2 * m = s.size) :
    Calls Tryd.prog 13 #[.string s] w fun e w' => e = .returned (.tuple #[.string (txt ((unhexB s.data.toList).getD [])), .bool (unhexB s.data.toList).isSome]) ∧ Below w.heap.size w w' := by
  have h1 : ((s.size : Int) % 2 != 0) = false := by simp; omega
  have hmk := make_row m (by omega)
  rw [show ((m : Nat) : Int) = (s.size : Int) / 2 from by omega] at hmk
  have hm1 : 2 * m ≤ s.size := by omega
  have hm2 : s.size ≤ 2 * m := by omega
  clear hm
  go_enter Tryd.func13, Tryd.ntmps13
  go_wp2
  go_loopw [5, 6] (fun a i wr => ∃ (j : Nat) (P : List UInt8), j ≤ m ∧ i = .int .i64 (2 * (j : Int)) ∧ a = .int .i64 (j : Int) ∧ Hid (wr.heap[w.heap.size]? = some (.cells (rowB m P).toArray 5 (0, 0))) ∧ Hid (P.length = j) ∧ Hid (unhexB s.data.toList = uleft s.data.toList j P) ∧ Below w.heap.size w wr) (fun _ i _ => 2 * m - (intOf i).toNat)
  case atStart => exact ⟨0, [], Nat.zero_le _, rfl, rfl, (by show (w.heap.push _)[w.heap.size]? = _; simp), rfl, (uleft_zero _).symm, (Below.refl _ _).alloc (Nat.le_refl _) _⟩
  case round =>
    obtain ⟨j, P, hj, rfl, rfl, hrow, HPL, HU, hb⟩ := hrel
    by_cases hlt : j < m
    · have hi0 : 2 * j < s.size := by omega
      have hi1 : 2 * j + 1 < s.size := by omega
      have hll : 2 * j + 1 < s.data.toList.length := by rw [Array.length_toList]; exact hi1
      have e1 : (2 * (j : Int)).toNat = 2 * j := by omega
      have e2 : IntKind.i64.wrap (2 * (j : Int) + 1) = 2 * (j : Int) + 1 := by rw [IntKind.wrap_i64]; omega
      have e3 : (2 * (j : Int) + 1).toNat = 2 * j + 1 := by omega
      obtain ⟨A, hA⟩ : ∃ A, fhZ (s[2 * j].toNat : Int) = A := ⟨_, rfl⟩
      obtain ⟨B, hB⟩ : ∃ B, fhZ (s[2 * j + 1].toNat : Int) = B := ⟨_, rfl⟩
      have hA1 := fhZ_bd (s[2 * j].toNat : Int)
      have hB1 := fhZ_bd (s[2 * j + 1].toNat : Int)
      rw [hA] at hA1
      rw [hB] at hB1
      have HA : Hid (_ = _) := hA
      have HB : Hid (_ = _) := hB
      clear hA hB
      go_wp2
      go_region_with (go_at_call 22; refine (hexValue_b _ _).mono ?_; rintro e w1 ⟨rfl, rfl⟩)
      all_goals
        rw [HA.out, HB.out]
        by_cases hAn : A < 0
        · have HR : Hid (_ = _) := unhex_of _ j P _ HU.out (uleft_bad _ j P hll (.inl (by have h := HA.out; exact h ▸ hAn)))
          go_wp2
          go_ret2
          exact ⟨ret_sb (by rw [HR.out]; rfl) (by rw [HR.out]; rfl), hb.drew⟩
        · by_cases hBn : B < 0
          · have HR : Hid (_ = _) := unhex_of _ j P _ HU.out (uleft_bad _ j P hll (.inr (by have h := HB.out; exact h ▸ hBn)))
            go_wp2
            go_ret2
            exact ⟨ret_sb (by rw [HR.out]; rfl) (by rw [HR.out]; rfl), hb.drew⟩
          · have hA0 : 0 ≤ A := by omega
            have hB0 : 0 ≤ B := by omega
            have HS : Hid (uleft s.data.toList j P = uleft s.data.toList (j + 1) (P ++ [byteOf A B])) := by
              show _ = _
              have h := uleft_step s.data.toList j P hll (by have h := HA.out; exact h ▸ hA0) (by have h := HB.out; exact h ▸ hB0)
              have e1 : fhZ (s.data.toList[2 * j].toNat : Int) = A := HA.out
              have e2 : fhZ (s.data.toList[2 * j + 1].toNat : Int) = B := HB.out
              rw [e1, e2] at h
              exact h
            have HO : Hid (_ = _) := or4 A B hA0 hA1.2 hB0 hB1.2
            have hl : Hid ((j : Int) = (P.length : Int)) := by show _ = _; rw [HPL.out]
            go_wp2_with fail
            refine (put_calls m w.heap.size P [byteOf A B] _ 1 1 ⟨wr.heap.size, 0, none⟩ _ (by exact heap_alloc_old _ _ _ _ hrow.out) hl.out rfl (by simp) (by have h9 := hl.out; simp only [List.length_singleton]; omega) (by omega) (by exact src_one_drew wr _ _ HO.out) w.heap.size w (by exact (hb.alloc hb.size _).drew) (Nat.le_refl _)).mono ?_
            rintro e w3 ⟨rfl, hrow1, hb1⟩
            go_wp2
            go_roundw
            case rel =>
              refine ⟨j + 1, P ++ [byteOf A B], by omega, by go_num, by go_num, hrow1, ?_, HU.out.trans HS.out, hb1⟩
              show _ = _
              rw [List.length_append, HPL.out]; rfl
            case measure => simp [intOf]; omega
    · obtain rfl : j = m := by omega
      have hcv : (convert 22 9 (.slice (some ⟨w.heap.size, 0, none⟩) j j)).run Tryd.prog wr = .ok (.string (txt P)) wr := by
        have h2 := conv_row j w.heap.size j P wr hrow.out
        rw [HPL.out] at h2
        exact h2
      have HR : Hid (_ = _) := unhex_of _ j P _ HU.out (uleft_end _ j P (by rw [Array.length_toList]; exact hm2))
      go_wp2
      go_ret2
      exact ⟨ret_sb (by rw [HR.out]; rfl) (by rw [HR.out]; rfl), hb⟩

end Go.Proofs.YtdkdjelbgegmeabDoor
