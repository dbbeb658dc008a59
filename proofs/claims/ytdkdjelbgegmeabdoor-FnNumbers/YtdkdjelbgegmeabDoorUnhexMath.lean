/- Plain facts on reading hex digits. No condition. -/
import Derived.Test.YtdkdjelbgegmeabDoorHexMath
namespace Go.Proofs.YtdkdjelbgegmeabDoor

/-- What a digit is worth, -1 where it is none. -/
def fhZ (x : Int) : Int := if 48 ≤ x ∧ x ≤ 57 then x - 48 else if 97 ≤ x ∧ x ≤ 102 then x - 87 else -1

theorem fhZ_bd (x : Int) : -1 ≤ fhZ x ∧ fhZ x ≤ 15 := by unfold fhZ; split <;> (try split) <;> omega

theorem fhZ_dg (n : Nat) (hn : n < 16) : fhZ ((dgZ (n : Int)).toNat : Int) = n := by
  rcases (by omega : n = 0 ∨ n = 1 ∨ n = 2 ∨ n = 3 ∨ n = 4 ∨ n = 5 ∨ n = 6 ∨ n = 7 ∨ n = 8 ∨ n = 9 ∨ n = 10 ∨ n = 11 ∨ n = 12 ∨ n = 13 ∨ n = 14 ∨ n = 15) with rfl | rfl | rfl | rfl | rfl | rfl | rfl | rfl | rfl | rfl | rfl | rfl | rfl | rfl | rfl | rfl
  all_goals decide

theorem dg_val (n : Nat) (hn : n < 16) : ((dgZ (n : Int)).toNat : Int) = if n < 10 then (48 : Int) + n else 87 + n := by
  rcases (by omega : n = 0 ∨ n = 1 ∨ n = 2 ∨ n = 3 ∨ n = 4 ∨ n = 5 ∨ n = 6 ∨ n = 7 ∨ n = 8 ∨ n = 9 ∨ n = 10 ∨ n = 11 ∨ n = 12 ∨ n = 13 ∨ n = 14 ∨ n = 15) with rfl | rfl | rfl | rfl | rfl | rfl | rfl | rfl | rfl | rfl | rfl | rfl | rfl | rfl | rfl | rfl
  all_goals decide

theorem fhZ_none (x : Int) (h : ∀ q : Nat, q < 16 → ((dgZ (q : Int)).toNat : Int) ≠ x) : fhZ x = -1 := by
  unfold fhZ
  split
  · rename_i h1
    have h2 := h (x - 48).toNat (by omega)
    rw [dg_val _ (by omega), if_pos (by omega)] at h2
    omega
  · split
    · rename_i h1
      have h2 := h (x - 87).toNat (by omega)
      rw [dg_val _ (by omega), if_neg (by omega)] at h2
      omega
    · rfl

/-- The byte of two digits. -/
def byteOf (x y : Int) : UInt8 := UInt8.ofNat (16 * x + y).toNat
theorem byteOf_toNat (x y : Int) (hx : 0 ≤ x) (hx1 : x ≤ 15) (hy : 0 ≤ y) (hy1 : y ≤ 15) : ((byteOf x y).toNat : Int) = 16 * x + y := by
  unfold byteOf; rw [UInt8.toNat_ofNat']; omega

theorem wraps63 (n : Int) (h₀ : 0 ≤ n) (h₁ : n < 2 ^ 63) : IntKind.i64.wrap n = n := by rw [IntKind.wrap_i64]; omega
theorem or4 (x y : Int) (hx : 0 ≤ x) (hx1 : x ≤ 15) (hy : 0 ≤ y) (hy1 : y ≤ 15) : bits .or .i64 (x * 16) y % 256 = ((byteOf x y).toNat : Int) := by
  rw [byteOf_toNat x y hx hx1 hy hy1, bits_join .i64 63 (by decide) wraps63 4 (x * 16) y (by omega) (by omega) (by omega) hy (by omega) (by omega)]
  omega

/-- The text of which Hex makes a text, where there is one. -/
def unhexB : List UInt8 → Option (List UInt8)
  | [] => some []
  | [_] => none
  | a :: b :: r => if fhZ (a.toNat : Int) < 0 ∨ fhZ (b.toNat : Int) < 0 then none else (unhexB r).map fun l => byteOf (fhZ (a.toNat : Int)) (fhZ (b.toNat : Int)) :: l

theorem unhexB_odd : ∀ (n : Nat) (l : List UInt8), l.length = n → n % 2 = 1 → unhexB l = none := by
  intro n
  induction n using Nat.strongRecOn with
  | ind n ih =>
    intro l hl hn
    match l, hl with
    | [], hl => simp at hl; omega
    | [_], _ => rfl
    | a :: b :: r, hl =>
      simp only [List.length_cons] at hl
      simp only [unhexB]
      split
      · rfl
      · rw [ih r.length (by omega) r rfl (by omega)]; rfl

/-- What is told of all of l, out of what is left behind 2 * j digits that made P. -/
def uleft (l : List UInt8) (j : Nat) (P : List UInt8) : Option (List UInt8) := (unhexB (l.drop (2 * j))).map fun r => P ++ r

theorem uleft_zero (l : List UInt8) : uleft l 0 [] = unhexB l := by
  unfold uleft
  cases h : unhexB l <;> simp [h]

theorem uleft_end (l : List UInt8) (j : Nat) (P : List UInt8) (h : l.length ≤ 2 * j) : uleft l j P = some P := by
  unfold uleft
  rw [List.drop_eq_nil_of_le h]
  simp [unhexB]

theorem drop_two (l : List UInt8) (j : Nat) (h : 2 * j + 1 < l.length) : l.drop (2 * j) = l[2 * j] :: l[2 * j + 1] :: l.drop (2 * (j + 1)) := by
  rw [List.drop_eq_getElem_cons (by omega), List.drop_eq_getElem_cons h]
  rfl

theorem uleft_bad (l : List UInt8) (j : Nat) (P : List UInt8) (h : 2 * j + 1 < l.length) (hb : fhZ (l[2 * j].toNat : Int) < 0 ∨ fhZ (l[2 * j + 1].toNat : Int) < 0) : uleft l j P = none := by
  unfold uleft
  rw [drop_two l j h]
  simp only [unhexB, if_pos hb, Option.map_none]

theorem uleft_step (l : List UInt8) (j : Nat) (P : List UInt8) (h : 2 * j + 1 < l.length) (h1 : 0 ≤ fhZ (l[2 * j].toNat : Int)) (h2 : 0 ≤ fhZ (l[2 * j + 1].toNat : Int)) :
    uleft l j P = uleft l (j + 1) (P ++ [byteOf (fhZ (l[2 * j].toNat : Int)) (fhZ (l[2 * j + 1].toNat : Int))]) := by
  unfold uleft
  rw [drop_two l j h]
  have hb : ¬ (fhZ (l[2 * j].toNat : Int) < 0 ∨ fhZ (l[2 * j + 1].toNat : Int) < 0) := by omega
  simp only [unhexB, if_neg hb]
  cases unhexB (l.drop (2 * (j + 1))) <;> simp

end Go.Proofs.YtdkdjelbgegmeabDoor
