/- Plain facts on hex digits. No condition. -/
import Derived.WalkKit
import Derived.Laws.BitsLemmas
namespace Go.Proofs.YtdkdjelbgegmeabDoor

/-- The digit of a number below 16. -/
def dg (n : Nat) : UInt8 := if n < 10 then UInt8.ofNat (48 + n) else UInt8.ofNat (87 + n)
def dgZ (x : Int) : UInt8 := dg x.toNat

theorem dgZ_div (b : UInt8) : dgZ ((b.toNat : Int) / 16) = dg (b.toNat / 16) := by unfold dgZ; congr 1
theorem dgZ_mod (b : UInt8) : dgZ ((b.toNat : Int) % 16) = dg (b.toNat % 16) := by unfold dgZ; congr 1

theorem dig_at (x : Int) (h0 : 0 ≤ x) (h1 : x < 16) (hp : x.toNat < (ByteArray.mk #[48, 49, 50, 51, 52, 53, 54, 55, 56, 57, 97, 98, 99, 100, 101, 102]).size) :
    (((ByteArray.mk #[48, 49, 50, 51, 52, 53, 54, 55, 56, 57, 97, 98, 99, 100, 101, 102])[x.toNat]'hp).toNat : Int) = ((dgZ x).toNat : Int) := by
  obtain ⟨n, rfl⟩ := Int.eq_ofNat_of_zero_le h0
  have hn : n < 16 := by omega
  clear h0 h1
  rcases (by omega : n = 0 ∨ n = 1 ∨ n = 2 ∨ n = 3 ∨ n = 4 ∨ n = 5 ∨ n = 6 ∨ n = 7 ∨ n = 8 ∨ n = 9 ∨ n = 10 ∨ n = 11 ∨ n = 12 ∨ n = 13 ∨ n = 14 ∨ n = 15) with rfl | rfl | rfl | rfl | rfl | rfl | rfl | rfl | rfl | rfl | rfl | rfl | rfl | rfl | rfl | rfl
  all_goals rfl

/-- Each byte as two digits, the higher one first. -/
def hexB : List UInt8 → List UInt8
  | [] => []
  | b :: r => dg (b.toNat / 16) :: dg (b.toNat % 16) :: hexB r

theorem hexB_length (l : List UInt8) : (hexB l).length = 2 * l.length := by
  induction l with
  | nil => rfl
  | cons b r ih => simp only [hexB, List.length_cons, ih]; omega

theorem hexB_append (a b : List UInt8) : hexB (a ++ b) = hexB a ++ hexB b := by
  induction a with
  | nil => rfl
  | cons x r ih => simp only [List.cons_append, hexB, ih]

end Go.Proofs.YtdkdjelbgegmeabDoor
