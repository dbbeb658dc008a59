/- What impl.ReadDec answers, at every text of at most 2^20 bytes, where the library's table of powers of ten is as its text lays it. -/
import Derived.Test.YtdkdjelbgegmeabDoorSRdWalks
namespace Go.Proofs.YtdkdjelbgegmeabDoor
open Go.RowKit
set_option linter.unusedVariables false

theorem all_step (D : ByteArray) (k : Nat) (h : k < D.size) (hd : 48 ≤ D[k].toNat ∧ D[k].toNat ≤ 57) (ha : (D.data.toList.take k).all isDg = true) : (D.data.toList.take (k + 1)).all isDg = true := by
  have e : isDg D[k] = true := by simp only [isDg, Bool.and_eq_true, decide_eq_true_eq]; exact hd
  rw [take_snoc_d D k h, List.all_append, ha]
  simp [e]
theorem all_bad (D : ByteArray) (k : Nat) (h : k < D.size) (hd : D[k].toNat < 48 ∨ 57 < D[k].toNat) : D.data.toList.all isDg = false := by
  have e : isDg D[k] = false := by
    cases hq : isDg D[k] with
    | false => rfl
    | true => simp only [isDg, Bool.and_eq_true, decide_eq_true_eq] at hq; omega
  rw [List.all_eq_false]
  have hl : k < D.data.toList.length := by rw [Array.length_toList]; exact h
  exact ⟨D.data.toList[k], List.getElem_mem hl, by rw [show D.data.toList[k] = D[k] from rfl, e]; simp⟩

set_option maxRecDepth 100000 in
set_option maxHeartbeats 400000 in
theorem iReadDec_calls (s : ByteArray) (w : World) (hs : s.size ≤ 1048576) (htab : Lib.TabIs Tryd.prog w "internal/strconv.uint64pow10" .u64 Lib.pow10Tab) :
    Calls Tryd.prog 11 #[.string s] w fun e w' => e = .returned (.tuple #[.int .i64 (ansN s.data.toList), .bool (okD s.data.toList)]) ∧ Below w.heap.size w w' := by
  obtain ⟨D, hD⟩ : ∃ D : ByteArray, D = txt (dTrim s.data.toList) := ⟨_, rfl⟩
  have HDl : Hid (D.data.toList = dTrim s.data.toList) := by show _ = _; rw [hD]; rfl
  have HTr : Hid (∀ w, Calls Tryd.prog 20 #[.string s, .string ⟨#[45]⟩] w fun e w' => e = .returned (.string D) ∧ w' = w) := by
    intro w
    have h := Tryd.strings_TrimPrefix s ⟨#[45]⟩ w
    rw [show (⟨#[45]⟩ : ByteArray).data.toList = [45] from rfl, trim_eq] at h
    rw [hD]
    exact h
  clear hD
  have HB : Hid (Lib.TabIs Tryd.prog w "internal/strconv.uint64pow10" .u64 Lib.pow10Tab) := htab
  clear htab
  have HDs : Hid (D.size = (dTrim s.data.toList).length) := by
    show _ = _
    rw [← HDl.out, Array.length_toList]; rfl
  have hDs : D.size ≤ 1048576 := by
    have h1 := HDs.out
    have h2 : (dTrim s.data.toList).length ≤ s.data.toList.length := by unfold dTrim; split <;> simp
    have h3 : s.data.toList.length = s.size := by rw [Array.length_toList]; rfl
    omega
  go_enter Tryd.func11, Tryd.ntmps11
  go_wp2_with fail
  refine (HTr.out _).mono ?_
  rintro e w1 ⟨rfl, rfl⟩
  by_cases h9 : 9 < D.size
  · have HR : Hid (_ = _) := okD_long s.data.toList (by rw [← HDs.out]; exact h9)
    go_wp2
    go_ret2
    exact ⟨ret_ib (ans_no _ HR.out).symm HR.out.symm, Below.refl _ _⟩
  · go_wp2
    go_loop [5, 14] (fun n i => ∃ j : Nat, j ≤ D.size ∧ i = .int .i64 j ∧ n = .int .i64 ((sv (D.data.toList.take j) : Nat) : Int) ∧ Hid ((D.data.toList.take j).all isDg = true)) (fun _ i => D.size - (intOf i).toNat)
    case atStart => exact ⟨0, by omega, rfl, rfl, rfl⟩
    case round =>
      obtain ⟨j, hj, rfl, rfl, HA⟩ := hrel
      have hv := sv_lt (D.data.toList.take j) (by rw [List.length_take]; omega)
      by_cases hlt : j < D.size
      · go_wp2
        · have h2 : (D[j].toNat : Int) < 48 ∨ 57 < (D[j].toNat : Int) := by assumption
          have HR := okD_bad s.data.toList (by rw [← HDl.out]; exact all_bad D j hlt (by omega))
          go_ret2
          exact ⟨ret_ib (ans_no _ HR).symm HR.symm, Below.refl _ _⟩
        · have h2 : 48 ≤ (D[j].toNat : Int) ∧ (D[j].toNat : Int) ≤ 57 := by assumption
          have HS := sv_step D j hlt ⟨by omega, by omega⟩
          have HA2 := all_step D j hlt ⟨by omega, by omega⟩ HA.out
          go_round
          case rel => exact ⟨j + 1, by omega, by go_num, by rw [HS.1]; go_num, HA2⟩
          case measure => simp [intOf]; omega
        · have h2 : (D[j].toNat : Int) < 48 := by assumption
          have HR := okD_bad s.data.toList (by rw [← HDl.out]; exact all_bad D j hlt (by omega))
          go_ret2
          exact ⟨ret_ib (ans_no _ HR).symm HR.symm, Below.refl _ _⟩
      · obtain rfl : j = D.size := by omega
        have ht : D.data.toList.take D.size = D.data.toList := List.take_of_length_le (by rw [Array.length_toList]; exact Nat.le_refl _)
        rw [ht] at hv HA ⊢
        clear ht
        have HO : Hid (_ = _) := okD_good s.data.toList (by rw [← HDs.out]; omega) (by rw [← HDl.out]; exact HA.out)
        obtain ⟨N, hN⟩ : ∃ N, sv D.data.toList = N := ⟨_, rfl⟩
        rw [hN]
        rw [hN] at hv
        have HN : Hid (sv s.data.toList = N) := by show _ = _; rw [← hN, HDl.out, sv_trim]
        clear hN
        have hsl : s.data.toList.length = s.size := by rw [Array.length_toList]; rfl
        by_cases h45 : s.data.toList.head? = some 45
        · have HV : Hid (nval s.data.toList = -(N : Int)) := by show _ = _; unfold nval; rw [if_pos h45, HN.out]
          have hlt2 : D.size < s.size := by
            have h1 := HDs.out
            have h2 : (dTrim s.data.toList).length = s.data.toList.length - 1 := by unfold dTrim; rw [if_pos h45, List.length_tail]
            have h3 : 0 < s.data.toList.length := by
              cases hsz : s.data.toList with
              | nil => rw [hsz] at h45; simp at h45
              | cons b r => simp
            omega
          have HT : Hid (_ = _) := text_eq s (Lib.itoa (-(N : Int)))
          clear h45 hsl
          have HO2 : Hid (okD s.data.toList = (Lib.itoa (-(N : Int)) == s.data.toList)) := by show _ = _; rw [HO.out, HV.out]
          go_wp2_with fail
          refine (iDec_calls (-(N : Int)) _ (by omega) (by omega) HB.out).mono ?_
          rintro e w2 ⟨rfl, hb2⟩
          cases hq : (Lib.itoa (-(N : Int)) == s.data.toList) with
          | true =>
            have hT := HT.out.trans hq
            have HR : Hid (_ = _) := HO2.out.trans hq
            clear hq
            go_wp2
            go_ret2
            exact ⟨ret_ib ((ans_yes _ HR.out).trans HV.out).symm HR.out.symm, hb2⟩
          | false =>
            have hT := HT.out.trans hq
            have HR : Hid (_ = _) := HO2.out.trans hq
            clear hq
            go_wp2
            go_ret2
            exact ⟨ret_ib (ans_no _ HR.out).symm HR.out.symm, hb2⟩
        · have HV : Hid (nval s.data.toList = (N : Int)) := by show _ = _; unfold nval; rw [if_neg h45, HN.out]
          have hlt2 : s.size ≤ D.size := by
            have h1 := HDs.out
            have h2 : (dTrim s.data.toList).length = s.data.toList.length := by unfold dTrim; rw [if_neg h45]
            omega
          have HT : Hid (_ = _) := text_eq s (Lib.itoa (N : Int))
          clear h45 hsl
          have HO2 : Hid (okD s.data.toList = (Lib.itoa ((N : Int)) == s.data.toList)) := by show _ = _; rw [HO.out, HV.out]
          go_wp2_with fail
          refine (iDec_calls ((N : Int)) _ (by omega) (by omega) HB.out).mono ?_
          rintro e w2 ⟨rfl, hb2⟩
          cases hq : (Lib.itoa ((N : Int)) == s.data.toList) with
          | true =>
            have hT := HT.out.trans hq
            have HR : Hid (_ = _) := HO2.out.trans hq
            clear hq
            go_wp2
            go_ret2
            exact ⟨ret_ib ((ans_yes _ HR.out).trans HV.out).symm HR.out.symm, hb2⟩
          | false =>
            have hT := HT.out.trans hq
            have HR : Hid (_ = _) := HO2.out.trans hq
            clear hq
            go_wp2
            go_ret2
            exact ⟨ret_ib (ans_no _ HR.out).symm HR.out.symm, hb2⟩

end Go.Proofs.YtdkdjelbgegmeabDoor
