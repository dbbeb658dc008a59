/- Plain facts on a row of bytes of which some in a row are xored. No condition. -/
import Derived.Test.YtanpjmecamhhpaaDoorCrcMath
namespace Go.Proofs.YtanpjmecamhhpaaDoor

/-- S, of which the bytes from k on, j of them, are xored with m 0, m 1 and so on. -/
def bufL (S : List UInt8) (k j : Nat) (m : Nat → UInt8) : List UInt8 := S.mapIdx fun i b => if k ≤ i ∧ i < k + j then b ^^^ m (i - k) else b
/-- Is one of the first j masks not 0? -/
def chg (m : Nat → UInt8) (j : Nat) : Bool := ((List.range j).map m).any (· != 0)

theorem bufL_length (S : List UInt8) (k j : Nat) (m : Nat → UInt8) : (bufL S k j m).length = S.length := by unfold bufL; rw [List.length_mapIdx]
theorem bufL_zero (S : List UInt8) (k : Nat) (m : Nat → UInt8) : bufL S k 0 m = S := by
  apply List.ext_getElem
  · exact bufL_length ..
  · intro i h1 h2
    simp only [bufL, List.getElem_mapIdx]
    rw [if_neg (by omega)]
theorem bufL_at (S : List UInt8) (k j : Nat) (m : Nat → UInt8) (h : k + j < S.length) : (bufL S k j m)[k + j]'(by rw [bufL_length]; exact h) = S[k + j] := by
  simp only [bufL, List.getElem_mapIdx]
  rw [if_neg (by omega)]
theorem bufL_succ (S : List UInt8) (k j : Nat) (m : Nat → UInt8) (h : k + j < S.length) : bufL S k (j + 1) m = (bufL S k j m).set (k + j) (S[k + j] ^^^ m j) := by
  apply List.ext_getElem
  · rw [List.length_set, bufL_length, bufL_length]
  · intro i h1 h2
    rw [List.getElem_set]
    simp only [bufL, List.getElem_mapIdx]
    by_cases hi : k + j = i
    · subst hi
      rw [if_pos (by omega), if_pos rfl, show k + j - k = j from by omega]
    · rw [if_neg hi]
      by_cases h3 : k ≤ i ∧ i < k + j
      · rw [if_pos h3, if_pos (by omega)]
      · rw [if_neg h3, if_neg (by omega)]
theorem bufL_zip (S : List UInt8) (k j : Nat) (m : Nat → UInt8) (h : k + j ≤ S.length) :
    bufL S k j m = List.zipWith (· ^^^ ·) S (List.replicate k 0 ++ (List.range j).map m ++ List.replicate (S.length - (k + j)) 0) := by
  apply List.ext_getElem
  · simp [bufL_length]; omega
  · intro i h1 h2
    rw [bufL_length] at h1
    simp only [bufL, List.getElem_mapIdx, List.getElem_zipWith]
    by_cases hk : i < k
    · rw [if_neg (by omega), List.getElem_append_left (by simp; omega), List.getElem_append_left (by simp; omega), List.getElem_replicate]
      simp
    · by_cases hj : i < k + j
      · rw [if_pos (by omega), List.getElem_append_left (by simp; omega), List.getElem_append_right (by simp; omega)]
        simp
      · rw [if_neg (by omega), List.getElem_append_right (by simp; omega), List.getElem_replicate]
        simp

theorem chg_zero (m : Nat → UInt8) : chg m 0 = false := rfl
theorem chg_succ (m : Nat → UInt8) (j : Nat) : chg m (j + 1) = (chg m j || m j != 0) := by
  unfold chg; rw [List.range_succ, List.map_append, List.any_append]; simp

/-- The sum parts from what it was just where one of the masks is not 0. -/
theorem crc_buf (S : List UInt8) (k j : Nat) (m : Nat → UInt8) (c : Nat) (h : k + j ≤ S.length) (h4 : j ≤ 4) : (crcL (bufL S k j m) c = crcL S c) ↔ chg m j = false := by
  rw [bufL_zip S k j m h, crc_told S ((List.range j).map m) k (S.length - (k + j)) c (by simp; omega) (by simpa using h4)]
  unfold chg
  rw [List.any_eq_false]
  simp

end Go.Proofs.YtanpjmecamhhpaaDoor
