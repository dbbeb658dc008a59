/- Chapter 1's functions as total functions of their arguments, for the law on numbers. -/
import Derived.Test.YtdkdjelbgegmeabDoorNumMath
import Derived.Test.YtdkdjelbgegmeabDoorIVarWalks
import Derived.Test.YtdkdjelbgegmeabDoorIRvWalks
import Derived.Test.YtdkdjelbgegmeabDoorIFixWalks
import Derived.Test.YtdkdjelbgegmeabDoorRfWalks
import Derived.Test.YtdkdjelbgegmeabDoorIUnhexWalks
import Derived.Test.YtdkdjelbgegmeabDoorIRdWalks
namespace Go.Proofs.YtdkdjelbgegmeabDoor
open Go.RowKit
set_option linter.unusedVariables false

theorem iVar_calls (n : Int) (w : World) :
    Calls Tryd.prog 7 #[.int .i64 n] w fun e w' => e = .returned (.string (txt (varZ n))) ∧ Below w.heap.size w w' := by
  by_cases h : 0 ≤ n ∧ n ≤ 562949953421311
  · rw [varZ_in n h]
    obtain ⟨m, rfl⟩ := Int.eq_ofNat_of_zero_le h.1
    exact iVar_yes m w (by omega)
  · rw [varZ_out n h]
    refine (iVar_no n w (by omega)).mono ?_
    rintro e w1 ⟨rfl, rfl⟩
    exact ⟨rfl, Below.refl _ _⟩

theorem iReadVar_txt (l : List UInt8) (w : World) (h : l.length ≤ 1048576) :
    Calls Tryd.prog 8 #[.string (txt l)] w fun e w' => e = .returned (.tuple #[.int .i64 ((rdv l).1 : Int), .int .i64 ((rdv l).2 : Int)]) ∧ w' = w :=
  iReadVar_calls (txt l) w h

theorem iFixed7_calls (n : Int) (w : World) (h : n ≤ 9223372036854775807) :
    Calls Tryd.prog 9 #[.int .i64 n, .int .i64 7] w fun e w' => e = .returned (.string (txt (fixZ n))) ∧ Below w.heap.size w w' := by
  by_cases h0 : n < 0
  · have e : fixZ n = [] := by unfold fixZ; rw [if_neg (by omega)]
    rw [e]
    refine (iFixed_no n 7 w (.inr (.inr h0))).mono ?_
    rintro e w1 ⟨rfl, rfl⟩
    exact ⟨rfl, Below.refl _ _⟩
  · obtain ⟨m, rfl⟩ := Int.eq_ofNat_of_zero_le (a := n) (by omega)
    have e7 : (256 ^ 7 : Nat) = 72057594037927936 := by decide
    by_cases h1 : m < 72057594037927936
    · have hz : sh m 7 = 0 := by unfold sh; rw [e7]; exact Nat.div_eq_of_lt h1
      have e : fixZ (m : Int) = low m 7 := by unfold fixZ; rw [if_pos (by omega)]; rfl
      rw [e]
      exact iFixed_yes m 7 w (by omega) (by omega) (by omega) hz
    · have hz : 0 < sh m 7 := by unfold sh; rw [e7]; exact Nat.div_pos (by omega) (by omega)
      have e : fixZ (m : Int) = [] := by unfold fixZ; rw [if_neg (by omega)]
      rw [e]
      refine (iFixed_big m 7 w (by omega) (by omega) (by omega) hz).mono ?_
      rintro e w1 ⟨rfl, rfl⟩
      exact ⟨rfl, Below.refl _ _⟩

/-- What ReadFixed of seven bytes tells. -/
def rf7 (l : List UInt8) : Int := if 7 ≤ l.length then rfv (l.take 7) 0 else 0
theorem iReadFixed7_calls (l : List UInt8) (w : World) (h : l.length ≤ 1048576) :
    Calls Tryd.prog 10 #[.string (txt l), .int .i64 7] w fun e w' => e = .returned (.tuple #[.int .i64 (rf7 l), .bool (decide (7 ≤ l.length))]) ∧ w' = w := by
  by_cases h7 : 7 ≤ l.length
  · have e : rf7 l = rfv (l.take 7) 0 := by unfold rf7; rw [if_pos h7]
    have e2 : decide (7 ≤ l.length) = true := by simpa using h7
    rw [e, e2]
    exact iReadFixed_yes (txt l) 7 w h (by omega) (by omega) h7
  · have e : rf7 l = 0 := by unfold rf7; rw [if_neg h7]
    have e2 : decide (7 ≤ l.length) = false := by simpa using h7
    rw [e, e2]
    exact iReadFixed_no (txt l) 7 w h (.inr (.inr (by show (l.length : Int) < 7; omega)))

theorem iUnhexHex_calls (l : List UInt8) (w : World) (h : l.length ≤ 500000) :
    Calls Tryd.prog 13 #[.string (txt (hexB l))] w fun e w' => e = .returned (.tuple #[.string (txt l), .bool true]) ∧ Below w.heap.size w w' := by
  have hl := hexB_length l
  have hu : unhexB (txt (hexB l)).data.toList = some l := unhex_hex l
  have hc := iUnhex_even (txt (hexB l)) l.length w (by rw [txt_size]; omega) (by rw [txt_size]; omega)
  rw [hu] at hc
  exact hc

theorem iReadDecItoa_calls (n : Int) (w : World) (h0 : -9223372036854775808 ≤ n) (h1 : n ≤ 9223372036854775807) (htab : Lib.TabIs Tryd.prog w "internal/strconv.uint64pow10" .u64 Lib.pow10Tab) :
    Calls Tryd.prog 11 #[.string (txt (Lib.itoa n))] w fun e w' => e = .returned (.tuple #[.int .i64 (ansN (Lib.itoa n)), .bool (okD (Lib.itoa n))]) ∧ Below w.heap.size w w' :=
  iReadDec_calls (txt (Lib.itoa n)) w (by rw [txt_size]; have := Lib.itoa_length_le n h0 h1; omega) htab

end Go.Proofs.YtdkdjelbgegmeabDoor
