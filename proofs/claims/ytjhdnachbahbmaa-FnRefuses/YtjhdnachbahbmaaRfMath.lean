/- Plain facts on the number that the first bytes of a text make, the highest first. No condition. -/
import Derived.WalkKit
import Derived.Laws.BitsLemmas
namespace Go.Proofs.Ytjhdnachbahbmaa

/-- The number that bytes make, the highest first. -/
def rfv : List UInt8 → Int → Int
  | [], n => n
  | b :: r, n => rfv r (n * 256 + (b.toNat : Int))

theorem rfv_snoc (l : List UInt8) (b : UInt8) : ∀ n, rfv (l ++ [b]) n = rfv l n * 256 + (b.toNat : Int) := by
  induction l with
  | nil => intro n; rfl
  | cons a r ih => intro n; exact ih _

theorem take_snoc (s : ByteArray) (k : Nat) (h : k < s.size) : s.data.toList.take (k + 1) = s.data.toList.take k ++ [s[k]] := by
  rw [List.take_succ_eq_append_getElem (by simpa using h)]; rfl

theorem rfv_bd (s : ByteArray) : ∀ k : Nat, k ≤ s.size → 0 ≤ rfv (s.data.toList.take k) 0 ∧ rfv (s.data.toList.take k) 0 < (256 ^ k : Nat) := by
  intro k
  induction k with
  | zero => intro _; simp [rfv]
  | succ k ih =>
    intro h
    obtain ⟨h0, h1⟩ := ih (by omega)
    rw [take_snoc s k (by omega), rfv_snoc]
    have hb : s[k].toNat < 256 := UInt8.toNat_lt _
    have e : (256 ^ (k + 1) : Nat) = 256 ^ k * 256 := Nat.pow_succ ..
    rw [e]
    omega

theorem rfv_lt (s : ByteArray) (k : Nat) (hk : k ≤ 6) (h : k ≤ s.size) : 0 ≤ rfv (s.data.toList.take k) 0 ∧ rfv (s.data.toList.take k) 0 < 281474976710656 := by
  have := rfv_bd s k h
  have h2 : (256 ^ k : Nat) ≤ 256 ^ 6 := Nat.pow_le_pow_right (by omega) hk
  have h3 : (256 ^ 6 : Nat) = 281474976710656 := by decide
  omega

theorem rfv_step (s : ByteArray) (k : Nat) (h : k < s.size) : rfv (s.data.toList.take (k + 1)) 0 = rfv (s.data.toList.take k) 0 * 256 + (s[k].toNat : Int) := by
  rw [take_snoc s k h, rfv_snoc]

theorem wraps_i64 (n : Int) (h₀ : 0 ≤ n) (h₁ : n < 2 ^ 63) : IntKind.i64.wrap n = n := by rw [IntKind.wrap_i64]; omega
theorem i64_or8 (x y : Int) (hx₀ : 0 ≤ x) (hx₁ : x < 281474976710656) (h₀ : 0 ≤ y) (h₁ : y < 256) : bits .or .i64 (x * 256) y = x * 256 + y :=
  bits_join .i64 63 (by decide) wraps_i64 8 (x * 256) y (by omega) (by omega) (by omega) h₀ h₁ (by omega)

end Go.Proofs.Ytjhdnachbahbmaa
