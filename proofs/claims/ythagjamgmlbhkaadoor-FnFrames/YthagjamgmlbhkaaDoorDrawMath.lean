/- The draws of the specification, as plain functions: a cursor is how many bytes of the code it has used and a number. No condition. -/
import Derived.WalkKit
import Derived.Laws.BitsLemmas
namespace Go.Proofs.YthagjamgmlbhkaaDoor

theorem bits_and_range (y : Int) (m : Nat) (hm : m < 2 ^ 62) : 0 ≤ bits .and .i64 y (m : Int) ∧ bits .and .i64 y (m : Int) ≤ (m : Int) := by
  have e : bits .and .i64 y (m : Int) = (((BitVec.ofInt 64 y &&& BitVec.ofInt 64 (m : Int)).toNat : Nat) : Int) := by
    have h1 : (BitVec.ofInt 64 y &&& BitVec.ofInt 64 (m : Int)).toNat ≤ m := by
      rw [BitVec.toNat_and]
      refine Nat.le_trans Nat.and_le_right ?_
      rw [BitVec.ofInt_natCast, BitVec.toNat_ofNat]
      exact Nat.mod_le _ _
    show IntKind.i64.wrap _ = _
    rw [IntKind.wrap_i64]
    have h2 : (2 ^ 62 : Nat) = 4611686018427387904 := by decide
    have h3 : (((BitVec.ofInt 64 y &&& BitVec.ofInt 64 (m : Int)).toNat : Nat) : Int) ≤ (m : Int) := by exact_mod_cast h1
    show ((((BitVec.ofInt 64 y &&& BitVec.ofInt 64 (m : Int)).toNat : Nat) : Int) + 9223372036854775808) % 18446744073709551616 - 9223372036854775808 = _
    omega
  have h1 : (BitVec.ofInt 64 y &&& BitVec.ofInt 64 (m : Int)).toNat ≤ m := by
    rw [BitVec.toNat_and]
    refine Nat.le_trans Nat.and_le_right ?_
    rw [BitVec.ofInt_natCast, BitVec.toNat_ofNat]
    exact Nat.mod_le _ _
  rw [e]
  omega

theorem and255 (y : Int) : 0 ≤ bits .and .i64 y 255 ∧ bits .and .i64 y 255 ≤ 255 := bits_and_range y 255 (by decide)
theorem and30 (y : Int) : 0 ≤ bits .and .i64 y 1073741823 ∧ bits .and .i64 y 1073741823 ≤ 1073741823 := bits_and_range y 1073741823 (by decide)

/-- Byte i of the code. -/
def cb (L : List UInt8) (i : Nat) : Int := ((L[i]?.getD 0).toNat : Int)
theorem cb_bd (L : List UInt8) (i : Nat) : 0 ≤ cb L i ∧ cb L i ≤ 255 := by unfold cb; have := UInt8.toNat_lt (L[i]?.getD 0); omega

/-- The number of a new cursor, behind j bytes. -/
def hF (L : List UInt8) : Nat → Int
  | 0 => 10101 + (L.length : Int)
  | j + 1 => bits .and .i64 (hF L j * 131 + cb L j + 7) 1073741823
theorem hF_bd (L : List UInt8) (hL : L.length ≤ 1048576) (j : Nat) : 0 ≤ hF L j ∧ hF L j ≤ 1073741823 := by
  cases j with
  | zero => unfold hF; omega
  | succ j => exact and30 _

def hN (h : Int) : Int := RowKit.wrap64 (RowKit.wrap64 (h * 6364136223846793005) + 1442695040888963407)
def xH (h : Int) : Int := bits .and .i64 (bits .xor .i64 (h / 8589934592) (h / 35184372088832)) 255
theorem xH_bd (h : Int) : 0 ≤ xH h ∧ xH h ≤ 255 := and255 _

/-- The next byte of a draw. -/
def nbV (L : List UInt8) (i : Nat) (h : Int) : Int := if i < L.length then bits .and .i64 (xH (hN h) + cb L i) 255 else xH (hN h)
def nbI (L : List UInt8) (i : Nat) : Nat := if i < L.length then i + 1 else i
theorem nbV_bd (L : List UInt8) (i : Nat) (h : Int) : 0 ≤ nbV L i h ∧ nbV L i h ≤ 255 := by
  unfold nbV; split
  · exact and255 _
  · exact xH_bd _
theorem nbI_le (L : List UInt8) (i : Nat) (h : i ≤ L.length) : nbI L i ≤ L.length := by unfold nbI; split <;> omega

/-- A cursor's state: bytes used, number. -/
def nb (L : List UInt8) (s : Nat × Int) : Int := nbV L s.1 s.2
def nbS (L : List UInt8) (s : Nat × Int) : Nat × Int := (nbI L s.1, hN s.2)
theorem nb_bd (L : List UInt8) (s : Nat × Int) : 0 ≤ nb L s ∧ nb L s ≤ 255 := nbV_bd _ _ _
theorem nbS_le (L : List UInt8) (s : Nat × Int) (h : s.1 ≤ L.length) : (nbS L s).1 ≤ L.length := nbI_le _ _ h

/-- A number below n, n at least 1. -/
def bl (L : List UInt8) (s : Nat × Int) (n : Nat) : Int :=
  if n ≤ 256 then nb L s % (n : Int) else (nb L s * 16777216 + nb L (nbS L s) * 65536 + nb L (nbS L (nbS L s)) * 256 + nb L (nbS L (nbS L (nbS L s)))) % (n : Int)
def blS (L : List UInt8) (s : Nat × Int) (n : Nat) : Nat × Int := if n ≤ 256 then nbS L s else nbS L (nbS L (nbS L (nbS L s)))
theorem bl_bd (L : List UInt8) (s : Nat × Int) (n : Nat) (h : 1 ≤ n) : 0 ≤ bl L s n ∧ bl L s n < (n : Int) := by
  unfold bl; split <;> exact ⟨Int.emod_nonneg _ (by omega), Int.emod_lt_of_pos _ (by omega)⟩
theorem blS_le (L : List UInt8) (s : Nat × Int) (n : Nat) (h : s.1 ≤ L.length) : (blS L s n).1 ≤ L.length := by
  unfold blS; split
  · exact nbS_le _ _ h
  · exact nbS_le _ _ (nbS_le _ _ (nbS_le _ _ (nbS_le _ _ h)))

def pickZ (zs : List Int) (x : Int) : Int := zs.getD x.toNat 0
/-- The numbers at the limits. -/
def nums : List Int := [-1, 0, 127, 128, 255, 256, 16383, 16384, 65535, 65536, 562949953421311, 562949953421312, 999999999, 1000000000, -999999999, 9223372036854775807, -9223372036854775808]
theorem nums_bd (x : Int) : -9223372036854775808 ≤ pickZ nums x ∧ pickZ nums x ≤ 9223372036854775807 := by
  have h : ∀ z ∈ nums, -9223372036854775808 ≤ z ∧ z ≤ 9223372036854775807 := by decide
  unfold pickZ
  by_cases hx : x.toNat < nums.length
  · rw [List.getD_eq_getElem?_getD, List.getElem?_eq_getElem hx]
    exact h _ (List.getElem_mem hx)
  · rw [List.getD_eq_getElem?_getD, List.getElem?_eq_none (by omega)]; decide

/-- A number, small, at a limit, or any. -/
def num (L : List UInt8) (s : Nat × Int) : Int :=
  if bl L s 8 = 0 then pickZ nums (bl L (blS L s 8) 17)
  else if bl L s 8 = 1 then bl L (blS L s 8) 1000000000 * bl L (blS L (blS L s 8) 1000000000) 1000000000
  else if bl L s 8 = 2 then -(bl L (blS L s 8) 100000)
  else bl L (blS L s 8) 70000
def numS (L : List UInt8) (s : Nat × Int) : Nat × Int :=
  if bl L s 8 = 0 then blS L (blS L s 8) 17
  else if bl L s 8 = 1 then blS L (blS L (blS L s 8) 1000000000) 1000000000
  else if bl L s 8 = 2 then blS L (blS L s 8) 100000
  else blS L (blS L s 8) 70000
theorem num_bd (L : List UInt8) (s : Nat × Int) : -9223372036854775808 ≤ num L s ∧ num L s ≤ 9223372036854775807 := by
  unfold num
  split
  · exact nums_bd _
  · split
    · have h1 := bl_bd L (blS L s 8) 1000000000 (by omega)
      have h2 := bl_bd L (blS L (blS L s 8) 1000000000) 1000000000 (by omega)
      have h3 : 0 ≤ bl L (blS L s 8) 1000000000 * bl L (blS L (blS L s 8) 1000000000) 1000000000 := Int.mul_nonneg h1.1 h2.1
      have h4 : bl L (blS L s 8) 1000000000 * bl L (blS L (blS L s 8) 1000000000) 1000000000 ≤ 1000000000 * 1000000000 := Int.mul_le_mul (by omega) (by omega) h2.1 (by omega)
      omega
    · split
      · have h1 := bl_bd L (blS L s 8) 100000 (by omega); omega
      · have h1 := bl_bd L (blS L s 8) 70000 (by omega); omega

/-- A byte of a text, by its style. -/
def tbZ (style b : Int) : Int := if style = 1 then b % 2 else if style = 2 then 97 + b % 4 else b
def tb (style b : Int) : UInt8 := UInt8.ofNat (tbZ style b).toNat
theorem tb_toNat (style b : Int) (h0 : 0 ≤ b) (h1 : b ≤ 255) : tbZ style b = ((tb style b).toNat : Int) := by
  have : 0 ≤ tbZ style b ∧ tbZ style b ≤ 255 := by unfold tbZ; split <;> (try split) <;> omega
  unfold tb
  rw [UInt8.toNat_ofNat']
  omega
def txB (L : List UInt8) (style : Int) : Nat → Nat × Int → List UInt8
  | 0, _ => []
  | n + 1, s => tb style (nb L s) :: txB L style n (nbS L s)
def txS (L : List UInt8) : Nat → Nat × Int → Nat × Int
  | 0, s => s
  | n + 1, s => txS L n (nbS L s)
theorem txB_length (L : List UInt8) (style : Int) : ∀ n s, (txB L style n s).length = n := by
  intro n; induction n with
  | zero => intro s; rfl
  | succ n ih => intro s; simp [txB, ih]
theorem txS_le (L : List UInt8) : ∀ n s, s.1 ≤ L.length → (txS L n s).1 ≤ L.length := by
  intro n; induction n with
  | zero => intro s h; exact h
  | succ n ih => intro s h; exact ih _ (nbS_le _ _ h)

/-- A text of at most so many bytes. -/
def text (L : List UInt8) (s : Nat × Int) (most : Nat) : List UInt8 := txB L (bl L s 4) (bl L (blS L s 4) (most + 1)).toNat (blS L (blS L s 4) (most + 1))
def textS (L : List UInt8) (s : Nat × Int) (most : Nat) : Nat × Int := txS L (bl L (blS L s 4) (most + 1)).toNat (blS L (blS L s 4) (most + 1))
theorem text_length (L : List UInt8) (s : Nat × Int) (most : Nat) : (text L s most).length ≤ most := by
  unfold text; rw [txB_length]
  have := bl_bd L (blS L s 4) (most + 1) (by omega)
  omega

/-- The byte that a spoilt one becomes. -/
def xorB (b : UInt8) (y : Int) : Int := bits .xor .i64 (b.toNat : Int) (1 + y) % 256
theorem xorB_bd (b : UInt8) (y : Int) : 0 ≤ xorB b y ∧ xorB b y < 256 := by unfold xorB; omega

/-- A text of which a byte was turned, dropped or added. -/
def spoil (L : List UInt8) (s : Nat × Int) (t : List UInt8) : List UInt8 :=
  if t.length = 0 then text L s 3
  else if bl L (blS L s t.length) 4 = 0 then t.take (bl L s t.length).toNat ++ t.drop ((bl L s t.length).toNat + 1)
  else if bl L (blS L s t.length) 4 = 1 then (t.take (bl L s t.length).toNat ++ [UInt8.ofNat (nb L (blS L (blS L s t.length) 4)).toNat]) ++ t.drop (bl L s t.length).toNat
  else if bl L (blS L s t.length) 4 = 2 then t.take (bl L s t.length).toNat
  else (t.take (bl L s t.length).toNat ++ [UInt8.ofNat (xorB (t[(bl L s t.length).toNat]?.getD 0) (bl L (blS L (blS L s t.length) 4) 255)).toNat]) ++ t.drop ((bl L s t.length).toNat + 1)
def spoilS (L : List UInt8) (s : Nat × Int) (t : List UInt8) : Nat × Int :=
  if t.length = 0 then textS L s 3
  else if bl L (blS L s t.length) 4 = 0 then blS L (blS L s t.length) 4
  else if bl L (blS L s t.length) 4 = 1 then nbS L (blS L (blS L s t.length) 4)
  else if bl L (blS L s t.length) 4 = 2 then blS L (blS L s t.length) 4
  else blS L (blS L (blS L s t.length) 4) 255
theorem spoil_length (L : List UInt8) (s : Nat × Int) (t : List UInt8) (h : t.length ≤ 1000) : (spoil L s t).length ≤ 1003 := by
  unfold spoil
  split
  · have := text_length L s 3; omega
  · split
    · simp only [List.length_append, List.length_take, List.length_drop]; omega
    · split
      · simp only [List.length_append, List.length_take, List.length_drop, List.length_singleton]; omega
      · split
        · simp only [List.length_take]; omega
        · simp only [List.length_append, List.length_take, List.length_drop, List.length_singleton]; omega

end Go.Proofs.YthagjamgmlbhkaaDoor
