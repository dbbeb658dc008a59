/- What spec.ReadVar answers, at every text of at most 2^20 bytes. -/
import Derived.Test.YtdkdjelbgegmeabDoorSVarWalks
import Derived.Test.YtdkdjelbgegmeabDoorRvMath
import Derived.Deep.RegionWith
namespace Go.Proofs.YtdkdjelbgegmeabDoor
open Go.RowKit
set_option linter.unusedVariables false

theorem ret_ii {a b c d : Int} (h1 : a = c) (h2 : b = d) : Ending.returned (.tuple #[.int .i64 a, .int .i64 b]) = .returned (.tuple #[.int .i64 c, .int .i64 d]) := by rw [h1, h2]

theorem vv_step (s : ByteArray) (k j : Nat) (hk : k ≤ s.size) (h : j < k) : vv ((s.data.toList.take k).drop j) = s[j].toNat % 128 + 128 * vv ((s.data.toList.take k).drop (j + 1)) := by
  have hl : j < (s.data.toList.take k).length := by rw [List.length_take, Array.length_toList]; show j < min k s.size; omega
  rw [List.drop_eq_getElem_cons hl]
  simp only [vv]
  rw [List.getElem_take]
  rfl

theorem vv_drop_bound (s : ByteArray) (k j : Nat) (h : k ≤ 7) (hj : 1 ≤ j) : vv ((s.data.toList.take k).drop j) ≤ 4398046511103 := by
  have h1 := vv_lt ((s.data.toList.take k).drop j)
  have h0 : ((s.data.toList.take k).drop j).length ≤ 6 := by rw [List.length_drop, List.length_take]; omega
  have h2 : (128 ^ ((s.data.toList.take k).drop j).length : Nat) ≤ 128 ^ 6 := Nat.pow_le_pow_right (by omega) h0
  have h3 : (128 ^ 6 : Nat) = 4398046511104 := by decide
  omega

theorem vv_wrap (v : Nat) (b : UInt8) (h : v ≤ 4398046511103) : wrap64 ((v : Int) * 128 + (wrap64 (b.toNat : Int)).tmod 128) = ((b.toNat % 128 + 128 * v : Nat) : Int) := by
  have hb := UInt8.toNat_lt b
  rw [IntWalk.wrap64_in (b.toNat : Int) ⟨by omega, by omega⟩, Int.tmod_eq_emod_of_nonneg (by omega), IntWalk.wrap64_in _ ⟨by omega, by omega⟩]
  omega

theorem tst_text (s : ByteArray) (k : Nat) (hk : k ≤ s.size) : ((txt (varB 6 (vv (s.data.toList.take k)))).toList == (s.extract 0 k).toList) = tst s.data.toList k := by
  have e : (s.extract 0 k).toList = s.data.toList.take k := by
    have h := ByteArray.extract_mk s.data.toList 0 k
    rw [show (ByteArray.mk s.data.toList.toArray) = s from rfl] at h
    rw [h, ByteArray.toList_mk]; simp
  rw [e]
  unfold txt
  rw [ByteArray.toList_mk]
  rfl

end Go.Proofs.YtdkdjelbgegmeabDoor
