/- What spec.ReadVar answers, at every text of at most 2^20 bytes. -/
import Derived.Test.YtcjpepdagnifiaaDoorSVarWalks
import Derived.Test.YtcjpepdagnifiaaDoorRvMath
import Derived.Deep.RegionWith
namespace Go.Proofs.YtcjpepdagnifiaaDoor
open Go.RowKit
set_option linter.unusedVariables false

theorem ret_ii {a b c d : Int} (h1 : a = c) (h2 : b = d) : Ending.returned (.tuple #[.int .i64 a, .int .i64 b]) = .returned (.tuple #[.int .i64 c, .int .i64 d]) := by rw [h1, h2]

theorem vv_step (s : ByteArray) (k j : Nat) (hk : k ≤ s.size) (h : j < k) : vv ((s.data.toList.take k).drop j) = s[j].toNat % 128 + 128 * vv ((s.data.toList.take k).drop (j + 1)) := by
  have hl : j < (s.data.toList.take k).length := by rw [List.length_take, Array.length_toList]; show j < min k s.size; omega
  rw [List.drop_eq_getElem_cons hl]
  simp only [vv]
  rw [List.getElem_take]
  rfl

theorem vv_drop_bound (s : ByteArray) (k j : Nat) (h : k ≤ 7) (hj : 1 ≤ j) : vv ((s.data.toList.take k).drop j) ≤ 4398046511103 := by
  have h1 := vv_lt ((s.data.toList.take k).drop j)
  have h0 : ((s.data.toList.take k).drop j).length ≤ 6 := by rw [List.length_drop, List.length_take]; omega
  have h2 : (128 ^ ((s.data.toList.take k).drop j).length : Nat) ≤ 128 ^ 6 := Nat.pow_le_pow_right (by omega) h0
  have h3 : (128 ^ 6 : Nat) = 4398046511104 := by decide
  omega

theorem vv_wrap (v : Nat) (b : UInt8) (h : v ≤ 4398046511103) : wrap64 ((v : Int) * 128 + (wrap64 (b.toNat : Int)).tmod 128) = ((b.toNat % 128 + 128 * v : Nat) : Int) := by
  have hb := UInt8.toNat_lt b
  rw [IntWalk.wrap64_in (b.toNat : Int) ⟨by omega, by omega⟩, Int.tmod_eq_emod_of_nonneg (by omega), IntWalk.wrap64_in _ ⟨by omega, by omega⟩]
  omega

theorem tst_text (s : ByteArray) (k : Nat) (hk : k ≤ s.size) : ((txt (varB 6 (vv (s.data.toList.take k)))).toList == (s.extract 0 k).toList) = tst s.data.toList k := by
  have e : (s.extract 0 k).toList = s.data.toList.take k := by
    have h := ByteArray.extract_mk s.data.toList 0 k
    rw [show (ByteArray.mk s.data.toList.toArray) = s from rfl] at h
    rw [h, ByteArray.toList_mk]; simp
  rw [e]
  unfold txt
  rw [ByteArray.toList_mk]
  rfl

set_option maxRecDepth 100000 in
theorem sReadVar_calls (s : ByteArray) (w : World) (hs : s.size ≤ 1048576) :
    Calls Tryd.prog 27 #[.string s] w fun e w' => e = .returned (.tuple #[.int .i64 ((rdv s.data.toList).1 : Int), .int .i64 ((rdv s.data.toList).2 : Int)]) ∧ Below w.heap.size w w' := by
  go_enter Tryd.func27, Tryd.ntmps27
  go_wp2
  go_loopw [4] (fun i wr => ∃ k : Nat, 1 ≤ k ∧ k ≤ 8 ∧ i = .int .i64 k ∧ Hid (∀ q, 1 ≤ q → q < k → q ≤ s.data.toList.length → tst s.data.toList q = false) ∧ Below w.heap.size w wr) (fun i _ => 8 - (intOf i).toNat)
  case atStart => exact ⟨1, by omega, by omega, rfl, (by intro q h1 h2; omega), Below.refl _ _⟩
  case round =>
    obtain ⟨k, hk1, hk8, rfl, HQ, hb⟩ := hrel
    by_cases hc : k ≤ 7 ∧ k ≤ s.size
    · obtain ⟨hc1, hc2⟩ := hc
      go_wp2
      go_loop [5, 6] (fun x i => ∃ j : Nat, j ≤ k ∧ i = .int .i64 ((j : Int) - 1) ∧ x = .int .i64 ((vv ((s.data.toList.take k).drop j) : Nat) : Int)) (fun _ i => (intOf i + 1).toNat)
      case atStart => exact ⟨k, Nat.le_refl _, rfl, by rw [List.drop_eq_nil_of_le (by rw [List.length_take]; omega)]; rfl⟩
      case round =>
        obtain ⟨j, hj, rfl, rfl⟩ := hrel
        by_cases hj0 : 0 < j
        · obtain ⟨j, rfl⟩ : ∃ j', j = j' + 1 := ⟨j - 1, by omega⟩
          have hbd := vv_drop_bound s k (j + 1) hc1 (by omega)
          have HV : Hid (_ = _) := vv_step s k j hc2 (by omega)
          have hjs : j < s.size := by omega
          go_wp2
          go_round
          case rel => exact ⟨j, by omega, by go_num, by rw [HV.out, vv_wrap _ _ hbd]⟩
          case measure => simp [intOf]
        · obtain rfl : j = 0 := by omega
          have hvb := vv_bound (s.data.toList.take k) (by rw [List.length_take]; omega)
          have hT := tst_text s k hc2
          by_cases ht : tst s.data.toList k = true
          · have HR : Hid (_ = _) := rdv_hit s.data.toList k hk1 hc1 (by rw [Array.length_toList]; exact hc2) ht
            rw [ht] at hT
            clear ht
            go_wp2
            go_region_with (go_at_call 49; refine (sVar_yes _ _ hvb).mono ?_; rintro e w1 ⟨rfl, hb1⟩)
            go_wp2
            go_ret2
            exact ⟨ret_ii (by rw [HR.out]) (by rw [HR.out]), hb.drew.trans (hb1.mono hb.size)⟩
          · have HF : Hid (_ = _) := Bool.eq_false_iff.2 ht
            rw [Bool.eq_false_iff.2 ht] at hT
            clear ht
            go_wp2
            go_region_with (go_at_call 49; refine (sVar_yes _ _ hvb).mono ?_; rintro e w1 ⟨rfl, hb1⟩)
            go_wp2
            go_roundw
            case rel =>
              refine ⟨k + 1, by omega, by omega, by go_num, ?_, hb.drew.trans (hb1.mono hb.size)⟩
              intro q h1 h2 h3
              by_cases hq : q = k
              · rw [hq]; exact HF.out
              · exact HQ.out q h1 (by omega) h3
            case measure => simp [intOf]; omega
    · have HR : Hid (_ = _) := rdv_none s.data.toList (fun q h1 h2 h3 => HQ.out q h1 (by have h4 : q ≤ s.size := h3; omega) h3)
      by_cases hk : k ≤ 7
      · have hk2 : s.size < k := by omega
        go_wp2
        go_ret2
        exact ⟨ret_ii (by rw [HR.out]; rfl) (by rw [HR.out]; rfl), hb⟩
      · go_wp2
        go_ret2
        exact ⟨ret_ii (by rw [HR.out]; rfl) (by rw [HR.out]; rfl), hb⟩

end Go.Proofs.YtcjpepdagnifiaaDoor
