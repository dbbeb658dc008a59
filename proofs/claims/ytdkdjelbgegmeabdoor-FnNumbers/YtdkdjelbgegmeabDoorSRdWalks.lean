/- What spec.ReadDec answers, at every text of at most 2^20 bytes. -/
import Derived.Test.YtdkdjelbgegmeabDoorIDecWalks
import Derived.Test.YtdkdjelbgegmeabDoorRdMath
namespace Go.Proofs.YtdkdjelbgegmeabDoor
open Go.RowKit
set_option linter.unusedVariables false

theorem ret_ib {a c : Int} {b d : Bool} (h1 : a = c) (h2 : b = d) : Ending.returned (.tuple #[.int .i64 a, .bool b]) = .returned (.tuple #[.int .i64 c, .bool d]) := by rw [h1, h2]

theorem take_snoc_d (s : ByteArray) (k : Nat) (h : k < s.size) : s.data.toList.take (k + 1) = s.data.toList.take k ++ [s[k]] := by
  rw [List.take_succ_eq_append_getElem (by simpa using h)]; rfl

theorem sv_step (s : ByteArray) (k : Nat) (h : k < s.size) (hd : 48 ≤ s[k].toNat ∧ s[k].toNat ≤ 57) :
    sv (s.data.toList.take (k + 1)) = sv (s.data.toList.take k) * 10 + (s[k].toNat - 48) ∧ sk (s.data.toList.take (k + 1)) = sk (s.data.toList.take k) + 1 := by
  have e : isDg s[k] = true := by simp only [isDg, Bool.and_eq_true, decide_eq_true_eq]; exact hd
  rw [take_snoc_d s k h, sv_snoc, sk_snoc, if_pos e, if_pos e]
  exact ⟨rfl, rfl⟩
theorem sv_skip (s : ByteArray) (k : Nat) (h : k < s.size) (hd : s[k].toNat < 48 ∨ 57 < s[k].toNat) :
    sv (s.data.toList.take (k + 1)) = sv (s.data.toList.take k) ∧ sk (s.data.toList.take (k + 1)) = sk (s.data.toList.take k) := by
  have e : ¬ isDg s[k] = true := by simp only [isDg, Bool.and_eq_true, decide_eq_true_eq]; omega
  rw [take_snoc_d s k h, sv_snoc, sk_snoc, if_neg e, if_neg e]
  exact ⟨rfl, rfl⟩

theorem head_at (s : ByteArray) (h : 0 < s.size) : s.data.toList.head? = some s[0] := by
  have hl : 0 < s.data.toList.length := by rw [Array.length_toList]; exact h
  rw [List.head?_eq_getElem?, List.getElem?_eq_getElem hl]
  rfl

theorem text_eq (s : ByteArray) (a : List UInt8) : ((txt a).toList == s.toList) = (a == s.data.toList) := by
  unfold txt
  rw [ByteArray.toList_mk, ByteArray.toList_eq]

theorem ans_yes (l : List UInt8) (h : okD l = true) : ansN l = nval l := by unfold ansN; rw [if_pos h]
theorem ans_no (l : List UInt8) (h : okD l = false) : ansN l = 0 := by unfold ansN; rw [if_neg (by simp [h])]

end Go.Proofs.YtdkdjelbgegmeabDoor
