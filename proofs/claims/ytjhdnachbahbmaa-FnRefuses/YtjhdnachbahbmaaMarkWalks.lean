/- The laws' marks on rows of texts: markText, markStringS, heldStringS. -/
import Derived.Test.YtjhdnachbahbmaaStrsWalks
import Derived.Test.YtjhdnachbahbmaaDecMath
import Derived.Test.YtjhdnachbahbmaaRfWalks
import Derived.WalkKit
import Derived.ProofKit
import Derived.Deep.RegionHeld
namespace Go.Proofs.Ytjhdnachbahbmaa
open Go.RowKit
set_option linter.unusedVariables false

/-- What markText makes of a number from 1 on. -/
def mtxt (u : Nat) : List UInt8 := [109] ++ Lib.decDigits u
theorem mtxt_len (u : Nat) (h : u ≤ 9223372036854775807) : (mtxt u).length ≤ 22 := by
  have := decLeft_len u 0 (Lib.decDigits u) (.inl ⟨rfl, rfl⟩) (by omega)
  unfold mtxt
  rw [List.length_append, List.length_singleton]
  omega

/-- The marks k, k + 1, .. -/
def mks (k : Nat) : Nat → List (List UInt8)
  | 0 => []
  | n + 1 => mks k n ++ [mtxt (k + n)]
theorem mks_length (k : Nat) : ∀ n, (mks k n).length = n
  | 0 => rfl
  | n + 1 => by rw [mks, List.length_append, mks_length k n]; rfl
theorem mks_at (k : Nat) : ∀ (n j : Nat) (h : j < (mks k n).length), (mks k n)[j] = mtxt (k + j) := by
  intro n
  induction n with
  | zero => intro j h; simp [mks] at h
  | succ n ih =>
    intro j h
    rw [mks_length] at h
    simp only [mks]
    by_cases hj : j < n
    · rw [List.getElem_append_left (by rw [mks_length]; exact hj)]
      exact ih j (by rw [mks_length]; exact hj)
    · obtain rfl : j = n := by omega
      rw [List.getElem_append_right (by rw [mks_length]; omega)]
      simp [mks_length]
def mked (k : Nat) (zs : List (List UInt8)) (j : Nat) : List (List UInt8) := mks k j ++ zs.drop j
theorem mked_length (k : Nat) (zs : List (List UInt8)) (j : Nat) (h : j ≤ zs.length) : (mked k zs j).length = zs.length := by
  unfold mked; rw [List.length_append, mks_length, List.length_drop]; omega
theorem mked_succ (k : Nat) (zs : List (List UInt8)) (j : Nat) (h : j < zs.length) : (mked k zs j).set j (mtxt (k + j)) = mked k zs (j + 1) := by
  unfold mked
  rw [List.set_append_right _ _ (by rw [mks_length]; omega), mks_length, Nat.sub_self, List.drop_eq_getElem_cons h, List.set_cons_zero]
  simp [mks]
theorem mked_all (k : Nat) (zs : List (List UInt8)) : mked k zs zs.length = mks k zs.length := by unfold mked; simp
theorem mked_zero (k : Nat) (zs : List (List UInt8)) : mked k zs 0 = zs := by simp [mked, mks]

theorem undrew {n : Nat} {w w' : World} (h : Below n w.drew w') : Below n w w' := ⟨h.os, h.tape, h.output, h.size, h.block⟩

end Go.Proofs.Ytjhdnachbahbmaa
