/- Plain facts on the lowest bytes of a number, the highest of them first. No condition. -/
import Derived.WalkKit
import Derived.Laws.CopyOwn
import Derived.Laws.IdiomStrings
import Derived.Laws.Concat
namespace Go.Proofs.Ytjhdnachbahbmaa

/-- What is left of n behind its j lowest bytes. -/
def sh (n j : Nat) : Nat := n / 256 ^ j
theorem sh_zero (n : Nat) : sh n 0 = n := by simp [sh]
theorem sh_succ (n j : Nat) : sh n (j + 1) = sh n j / 256 := by unfold sh; rw [Nat.pow_succ, Nat.div_div_eq_div_mul]
theorem sh_le (n j : Nat) : sh n j ≤ n := Nat.div_le_self _ _

theorem sh_pow (n j : Nat) : (n : Int) / 2 ^ (8 * j) = ((sh n j : Nat) : Int) := by
  unfold sh
  have e : (256 ^ j : Nat) = 2 ^ (8 * j) := by rw [Nat.pow_mul]
  rw [e]; simp

theorem sh_byte (n j : Nat) : (n : Int) / 2 ^ (8 * j) % 256 = ((UInt8.ofNat (sh n j)).toNat : Int) := by
  rw [sh_pow, UInt8.toNat_ofNat']; omega

/-- The k lowest bytes of n, the highest first. -/
def low (n : Nat) : Nat → List UInt8
  | 0 => []
  | k + 1 => UInt8.ofNat (sh n k) :: low n k

theorem low_length (n k : Nat) : (low n k).length = k := by
  induction k with
  | zero => rfl
  | succ k ih => simp [low, ih]

theorem low_take (n : Nat) : ∀ k r, (low n (k + r + 1)).take (k + 1) = (low n (k + r + 1)).take k ++ [UInt8.ofNat (sh n r)] := by
  intro k
  induction k with
  | zero => intro r; simp [low]
  | succ k ih =>
    intro r
    have h := ih r
    rw [show k + 1 + r + 1 = (k + r + 1) + 1 from by omega]
    show UInt8.ofNat (sh n (k + r + 1)) :: (low n (k + r + 1)).take (k + 1) = UInt8.ofNat (sh n (k + r + 1)) :: ((low n (k + r + 1)).take k ++ [UInt8.ofNat (sh n r)])
    rw [h]

/-- A text of these bytes. -/
def txt (l : List UInt8) : ByteArray := ⟨l.toArray⟩

theorem ret_str {a b : ByteArray} (h : a = b) : Ending.returned (.string a) = .returned (.string b) := by rw [h]
theorem txt_append (a b : List UInt8) : txt a ++ txt b = txt (a ++ b) := ByteArray.mk_append_mk a b
theorem txt_size (a : List UInt8) : (txt a).size = a.length := rfl
theorem ofNat_mod (m : Nat) : UInt8.ofNat (m % 256) = UInt8.ofNat m := by
  apply UInt8.toNat_inj.1; simp

/-- The text of one byte that was just laid as a row of its own. -/
theorem conv_one {P : Program} (src dst e : TypeId) (hs : P.underlying src = some (.slice e)) (he : P.underlying e = some (.int .u8)) (hd : P.underlying dst = some .string)
    (w : World) (x : Int) (h0 : 0 ≤ x) (h1 : x < 256) :
    (convert src dst (.slice (some ⟨w.heap.size, 0, none⟩) 1 1)).run P (w.alloc (.cells #[.int .u8 x] e)) = .ok (.string (txt [UInt8.ofNat x.toNat])) (w.alloc (.cells #[.int .u8 x] e)) := by
  refine run_convert_bytes_back (P := P) (w.alloc (.cells #[.int .u8 x] e)) src dst e ⟨w.heap.size, 0, none⟩ 1 [UInt8.ofNat x.toNat] hs he hd ?_
  intro j hj
  have hj0 : j = 0 := by simp at hj; exact hj
  subst hj0
  rw [show (Addr.add ⟨w.heap.size, 0, none⟩ 0) = ⟨w.heap.size, 0, none⟩ from rfl, World.cell?_alloc_mark]
  have : x.toNat % 256 = x.toNat := by omega
  simp [this]
  omega

end Go.Proofs.Ytjhdnachbahbmaa
