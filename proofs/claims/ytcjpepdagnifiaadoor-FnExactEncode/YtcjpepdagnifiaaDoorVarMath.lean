/- Plain facts on the bytes of Var: seven bits to a byte, the lowest first. No condition. -/
import Derived.WalkKit
import Derived.Laws.BitsLemmas
namespace Go.Proofs.YtcjpepdagnifiaaDoor

/-- A byte that is not the last one. -/
def hiB (n : Nat) : UInt8 := UInt8.ofNat (128 + n % 128)

/-- The bytes of Var, at most f + 1 of them. -/
def varB : Nat → Nat → List UInt8
  | 0, n => [UInt8.ofNat n]
  | f + 1, n => if n < 128 then [UInt8.ofNat n] else hiB n :: varB f (n / 128)

/-- What f + 1 bytes can hold. -/
def vlim (f : Nat) : Nat := 128 ^ (f + 1)
theorem vlim_zero : vlim 0 = 128 := rfl
theorem vlim_div (f m : Nat) (h : m < vlim (f + 1)) : m / 128 < vlim f := by
  unfold vlim at *
  rw [Nat.pow_succ] at h
  exact Nat.div_lt_of_lt_mul (by rw [Nat.mul_comm]; exact h)
theorem vlim_le (f : Nat) (h : f ≤ 6) : vlim f ≤ 562949953421312 := by
  have : vlim f ≤ 128 ^ 7 := Nat.pow_le_pow_right (by omega) (by omega)
  have h2 : (128 ^ 7 : Nat) = 562949953421312 := by decide
  omega

theorem varB_small (f n : Nat) (h : n < 128) : varB f n = [UInt8.ofNat n] := by
  cases f with
  | zero => rfl
  | succ f => simp [varB, h]
theorem varB_great (f n : Nat) (h : 128 ≤ n) : varB (f + 1) n = hiB n :: varB f (n / 128) := by
  have : ¬ n < 128 := by omega
  simp [varB, this]
theorem varB_length (f : Nat) : ∀ n, (varB f n).length ≤ f + 1 := by
  induction f with
  | zero => intro n; exact Nat.le_refl 1
  | succ f ih =>
    intro n
    by_cases h : n < 128
    · rw [varB_small _ _ h]; simp
    · rw [varB_great _ _ (by omega)]; have := ih (n / 128); simp only [List.length_cons]; omega

theorem byte_hi (n : Nat) : (128 + (n : Int) % 128) = ((hiB n).toNat : Int) := by
  unfold hiB; rw [UInt8.toNat_ofNat']; omega
theorem byte_lo (n : Nat) (h : n < 128) : (n : Int) = ((UInt8.ofNat n).toNat : Int) := by
  rw [UInt8.toNat_ofNat']; omega

theorem wraps64 (n : Int) (h₀ : 0 ≤ n) (h₁ : n < 2 ^ 63) : IntKind.i64.wrap n = n := by rw [IntKind.wrap_i64]; omega
theorem and127 (m : Nat) (h : m ≤ 562949953421311) : bits .and .i64 (m : Int) 127 = (m : Int) % 128 := bits_mask .i64 63 (by decide) wraps64 7 (by decide) (m : Int) (by omega) (by omega)
theorem or128 (a : Nat) (h : a < 128) : bits .or .u8 (a : Int) 128 = 128 + (a : Int) := by
  have h1 := (bits_nat .u8 8 (by decide) wraps_u8 a 128 (by omega) (by omega)).2
  have h2 := (bits_nat .u8 8 (by decide) wraps_u8 128 a (by omega) (by omega)).2
  have h3 := bits_join .u8 8 (by decide) wraps_u8 7 128 (a : Int) (by omega) (by omega) (by omega) (by omega) (by omega) (by omega)
  rw [Nat.or_comm] at h1
  exact h1.trans (h2.symm.trans h3)
theorem byte_bits (m : Nat) (h : m ≤ 562949953421311) : bits .or .u8 (bits .and .i64 (m : Int) 127 % 256) 128 = ((hiB m).toNat : Int) := by
  have e : (m : Int) % 128 % 256 = ((m % 128 : Nat) : Int) := by omega
  rw [and127 m h, e, or128 _ (by omega), ← byte_hi]
  omega

end Go.Proofs.YtcjpepdagnifiaaDoor
