/- What spec.ReadDec answers, at every text of at most 2^20 bytes. -/
import Derived.Test.YtdkdjelbgegmeahDoorIDecWalks
import Derived.Test.YtdkdjelbgegmeahDoorRdMath
namespace Go.Proofs.YtdkdjelbgegmeahDoor
open Go.RowKit
set_option linter.unusedVariables false

theorem ret_ib {a c : Int} {b d : Bool} (h1 : a = c) (h2 : b = d) : Ending.returned (.tuple #[.int .i64 a, .bool b]) = .returned (.tuple #[.int .i64 c, .bool d]) := by rw [h1, h2]

theorem take_snoc (s : ByteArray) (k : Nat) (h : k < s.size) : s.data.toList.take (k + 1) = s.data.toList.take k ++ [s[k]] := by
  rw [List.take_succ_eq_append_getElem (by simpa using h)]; rfl

theorem sv_step (s : ByteArray) (k : Nat) (h : k < s.size) (hd : 48 ≤ s[k].toNat ∧ s[k].toNat ≤ 57) :
    sv (s.data.toList.take (k + 1)) = sv (s.data.toList.take k) * 10 + (s[k].toNat - 48) ∧ sk (s.data.toList.take (k + 1)) = sk (s.data.toList.take k) + 1 := by
  have e : isDg s[k] = true := by simp only [isDg, Bool.and_eq_true, decide_eq_true_eq]; exact hd
  rw [take_snoc s k h, sv_snoc, sk_snoc, if_pos e, if_pos e]
  exact ⟨rfl, rfl⟩
theorem sv_skip (s : ByteArray) (k : Nat) (h : k < s.size) (hd : s[k].toNat < 48 ∨ 57 < s[k].toNat) :
    sv (s.data.toList.take (k + 1)) = sv (s.data.toList.take k) ∧ sk (s.data.toList.take (k + 1)) = sk (s.data.toList.take k) := by
  have e : ¬ isDg s[k] = true := by simp only [isDg, Bool.and_eq_true, decide_eq_true_eq]; omega
  rw [take_snoc s k h, sv_snoc, sk_snoc, if_neg e, if_neg e]
  exact ⟨rfl, rfl⟩

theorem head_at (s : ByteArray) (h : 0 < s.size) : s.data.toList.head? = some s[0] := by
  have hl : 0 < s.data.toList.length := by rw [Array.length_toList]; exact h
  rw [List.head?_eq_getElem?, List.getElem?_eq_getElem hl]
  rfl

theorem text_eq (s : ByteArray) (a : List UInt8) : ((txt a).toList == s.toList) = (a == s.data.toList) := by
  unfold txt
  rw [ByteArray.toList_mk, ByteArray.toList_eq]

theorem ans_yes (l : List UInt8) (h : okD l = true) : ansN l = nval l := by unfold ansN; rw [if_pos h]
theorem ans_no (l : List UInt8) (h : okD l = false) : ansN l = 0 := by unfold ansN; rw [if_neg (by simp [h])]

set_option maxRecDepth 100000 in
set_option maxHeartbeats 400000 in
theorem sReadDec_calls (s : ByteArray) (w : World) (hs : s.size ≤ 1048576) :
    Calls Tryd.prog 7 #[.string s] w fun e w' => e = .returned (.tuple #[.int .i64 (ansN s.data.toList), .bool (okD s.data.toList)]) ∧ Below w.heap.size w w' := by
  go_enter Tryd.func7, Tryd.ntmps7
  go_wp2
  go_loop [4, 5, 6] (fun n k i => ∃ j : Nat, j ≤ s.size ∧ j ≤ 11 ∧ i = .int .i64 j ∧ n = .int .i64 ((sv (s.data.toList.take j) : Nat) : Int) ∧ k = .int .i64 ((sk (s.data.toList.take j) : Nat) : Int)) (fun _ _ i => 11 - (intOf i).toNat)
  case atStart => exact ⟨0, by omega, by omega, rfl, rfl, rfl⟩
  case round =>
    obtain ⟨j, hj, hj11, rfl, rfl, rfl⟩ := hrel
    have hv := sv_lt (s.data.toList.take j) (by rw [List.length_take]; omega)
    have hk := sk_le (s.data.toList.take j)
    have hk11 : sk (s.data.toList.take j) ≤ 11 := by rw [List.length_take] at hk; omega
    clear hk
    by_cases hlt : j < s.size ∧ j < 11
    · obtain ⟨hlt1, hlt2⟩ := hlt
      go_wp2
      · have h1 : 48 ≤ (s[j].toNat : Int) := by assumption
        have h2 : (s[j].toNat : Int) ≤ 57 := by assumption
        have HS := sv_step s j hlt1 ⟨by omega, by omega⟩
        go_round
        case rel => exact ⟨j + 1, by omega, by omega, by go_num, by rw [HS.1]; go_num, by rw [HS.2]; go_num⟩
        case measure => simp [intOf]; omega
      · have h2 : 57 < (s[j].toNat : Int) := by assumption
        have HS := sv_skip s j hlt1 (.inr (by omega))
        go_round
        case rel => exact ⟨j + 1, by omega, by omega, by go_num, by rw [HS.1], by rw [HS.2]⟩
        case measure => simp [intOf]; omega
      · have h2 : ¬ 48 ≤ (s[j].toNat : Int) := by assumption
        have HS := sv_skip s j hlt1 (.inl (by omega))
        go_round
        case rel => exact ⟨j + 1, by omega, by omega, by go_num, by rw [HS.1], by rw [HS.2]⟩
        case measure => simp [intOf]; omega
    · by_cases hlong : 10 < s.size
      · have HR : Hid (okD s.data.toList = false) := by
          show _ = _
          rw [okD_eq]
          have e : decide (s.data.toList.length ≤ 10) = false := by rw [Array.length_toList]; show decide (s.size ≤ 10) = false; simp; omega
          rw [e]; simp
        by_cases hk9 : 9 < sk (s.data.toList.take j)
        all_goals
          go_wp2
          all_goals go_ret2
          all_goals exact ⟨ret_ib (ans_no _ HR.out).symm HR.out.symm, Below.refl _ _⟩
      · obtain rfl : j = s.size := by omega
        have ht : s.data.toList.take s.size = s.data.toList := List.take_of_length_le (by rw [Array.length_toList]; exact Nat.le_refl _)
        rw [ht] at hv hk11 ⊢
        clear ht
        obtain ⟨N, hN⟩ : ∃ N, sv s.data.toList = N := ⟨_, rfl⟩
        obtain ⟨Kd, hKd⟩ : ∃ Kd, sk s.data.toList = Kd := ⟨_, rfl⟩
        rw [hN, hKd]
        rw [hN] at hv
        rw [hKd] at hk11
        have HN : Hid (_ = _) := hN
        have HK : Hid (_ = _) := hKd
        clear hN hKd
        by_cases hk9 : 9 < Kd
        · have HR : Hid (okD s.data.toList = false) := by
            show _ = _
            rw [okD_eq, HK.out]
            have e : decide (Kd ≤ 9) = false := by simp; omega
            rw [e]; simp
          go_wp2
          all_goals go_ret2
          all_goals exact ⟨ret_ib (ans_no _ HR.out).symm HR.out.symm, Below.refl _ _⟩
        · have HO : Hid (okD s.data.toList = (Lib.itoa (nval s.data.toList) == s.data.toList)) := by
            show _ = _
            rw [okD_eq, HK.out]
            have e : decide (Kd ≤ 9) = true := by simp; omega
            have e2 : decide (s.data.toList.length ≤ 10) = true := by rw [Array.length_toList]; show decide (s.size ≤ 10) = true; simp; omega
            rw [e, e2]; simp
          by_cases h45 : s.data.toList.head? = some 45
          · have hnv : nval s.data.toList = -(N : Int) := by unfold nval; rw [if_pos h45, HN.out]
            have HV : Hid (_ = _) := hnv
            have hp : 0 < s.size := by
              cases hsz : s.data.toList with
              | nil => rw [hsz] at h45; simp at h45
              | cons b r => have : s.data.toList.length = s.size := by rw [Array.length_toList]; rfl
                            rw [hsz] at this; simp at this; omega
            have h0 : ((s[0].toNat : Int) == 45) = true := by
              rw [head_at s hp] at h45
              have : s[0] = 45 := by simpa using h45
              rw [this]; rfl
            have HT : Hid (_ = _) := text_eq s (Lib.itoa (-(N : Int)))
            clear h45 hnv
            have HO2 : Hid (okD s.data.toList = (Lib.itoa (-(N : Int)) == s.data.toList)) := by show _ = _; rw [HO.out, HV.out]
            go_wp2_with fail
            refine (sDec_calls (-(N : Int)) _ (by omega) (by omega)).mono ?_
            rintro e w1 ⟨rfl, hb1⟩
            cases hq : (Lib.itoa (-(N : Int)) == s.data.toList) with
            | true =>
              have hT := HT.out.trans hq
              have HR : Hid (_ = _) := HO2.out.trans hq
              clear hq
              go_wp2
              go_ret2
              exact ⟨ret_ib ((ans_yes _ HR.out).trans HV.out).symm HR.out.symm, hb1⟩
            | false =>
              have hT := HT.out.trans hq
              have HR : Hid (_ = _) := HO2.out.trans hq
              clear hq
              go_wp2
              go_ret2
              exact ⟨ret_ib (ans_no _ HR.out).symm HR.out.symm, hb1⟩
          · have HV : Hid (nval s.data.toList = (N : Int)) := by show _ = _; unfold nval; rw [if_neg h45, HN.out]
            have HT : Hid (_ = _) := text_eq s (Lib.itoa (N : Int))
            by_cases hp : 0 < s.size
            · have h0 : ((s[0].toNat : Int) == 45) = false := by
                rw [head_at s hp] at h45
                rw [beq_eq_false_iff_ne]
                intro h
                apply h45
                have : s[0] = 45 := by apply UInt8.toNat_inj.1; show s[0].toNat = 45; omega
                rw [this]
              clear h45
              have HO2 : Hid (okD s.data.toList = (Lib.itoa ((N : Int)) == s.data.toList)) := by show _ = _; rw [HO.out, HV.out]
              go_wp2_with fail
              refine (sDec_calls ((N : Int)) _ (by omega) (by omega)).mono ?_
              rintro e w1 ⟨rfl, hb1⟩
              cases hq : (Lib.itoa ((N : Int)) == s.data.toList) with
              | true =>
                have hT := HT.out.trans hq
                have HR : Hid (_ = _) := HO2.out.trans hq
                clear hq
                go_wp2
                go_ret2
                exact ⟨ret_ib ((ans_yes _ HR.out).trans HV.out).symm HR.out.symm, hb1⟩
              | false =>
                have hT := HT.out.trans hq
                have HR : Hid (_ = _) := HO2.out.trans hq
                clear hq
                go_wp2
                go_ret2
                exact ⟨ret_ib (ans_no _ HR.out).symm HR.out.symm, hb1⟩
            · have hp0 : s.size < 1 := by omega
              clear h45
              have HO2 : Hid (okD s.data.toList = (Lib.itoa ((N : Int)) == s.data.toList)) := by show _ = _; rw [HO.out, HV.out]
              go_wp2_with fail
              refine (sDec_calls ((N : Int)) _ (by omega) (by omega)).mono ?_
              rintro e w1 ⟨rfl, hb1⟩
              cases hq : (Lib.itoa ((N : Int)) == s.data.toList) with
              | true =>
                have hT := HT.out.trans hq
                have HR : Hid (_ = _) := HO2.out.trans hq
                clear hq
                go_wp2
                go_ret2
                exact ⟨ret_ib ((ans_yes _ HR.out).trans HV.out).symm HR.out.symm, hb1⟩
              | false =>
                have hT := HT.out.trans hq
                have HR : Hid (_ = _) := HO2.out.trans hq
                clear hq
                go_wp2
                go_ret2
                exact ⟨ret_ib (ans_no _ HR.out).symm HR.out.symm, hb1⟩

end Go.Proofs.YtdkdjelbgegmeahDoor
