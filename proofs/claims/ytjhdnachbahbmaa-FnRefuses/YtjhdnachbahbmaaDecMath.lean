/- Plain facts on decimal digits. No condition. -/
import Derived.Test.YtjhdnachbahbmaaFixMath
import Derived.Lib.ItoaNum
import Derived.Lib.ItoaMem
import Derived.Lib.ItoaLen
namespace Go.Proofs.Ytjhdnachbahbmaa

/-- Of u, m is still to be written, and P stands written. -/
def decLeft (u m : Nat) (P : List UInt8) : Prop := (m = 0 ∧ P = Lib.decDigits u) ∨ (0 < m ∧ Lib.decDigits u = Lib.decDigits m ++ P)

theorem decLeft_start (u : Nat) (h : 0 < u) : decLeft u u [] := .inr ⟨h, by simp⟩

theorem decLeft_step (u m : Nat) (P : List UInt8) (h : decLeft u m P) (hm : 0 < m) : decLeft u (m / 10) (UInt8.ofNat (48 + m % 10) :: P) := by
  rcases h with ⟨h, _⟩ | ⟨_, h⟩
  · omega
  · by_cases h10 : m < 10
    · refine .inl ⟨by omega, ?_⟩
      rw [h, Lib.decDigits_one h10, show m % 10 = m from by omega]
      rfl
    · refine .inr ⟨by omega, ?_⟩
      rw [h, Lib.decDigits, dif_neg h10]
      simp

theorem decLeft_len (u m : Nat) (P : List UInt8) (h : decLeft u m P) (hu : u ≤ 9223372036854775808) : P.length ≤ 21 := by
  have h21 : (Lib.decDigits u).length ≤ 21 := by
    by_cases h9 : u = 9223372036854775808
    · have := Lib.itoa_length_le (-(u : Int)) (by omega) (by omega)
      rw [Lib.itoa_neg u (by omega)] at this
      simp at this; omega
    · have := Lib.itoa_length_le (u : Int) (by omega) (by omega)
      rw [Lib.itoa_nonneg] at this
      exact this
  rcases h with ⟨_, rfl⟩ | ⟨_, h⟩
  · exact h21
  · have := congrArg List.length h
    rw [List.length_append] at this
    omega

theorem decLeft_end (u : Nat) (P : List UInt8) (h : decLeft u 0 P) : P = Lib.decDigits u := by
  rcases h with ⟨_, h⟩ | ⟨h, _⟩
  · exact h
  · omega

/-- The byte of a digit, as a value. -/
def digB (m : Nat) : UInt8 := UInt8.ofNat (48 + m % 10)
theorem digB_nat (m : Nat) : UInt8.ofNat (48 + (m : Int) % 10).toNat = digB m := by
  unfold digB; congr 1

end Go.Proofs.Ytjhdnachbahbmaa
