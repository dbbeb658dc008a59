/- What spec.Dec answers, at every number. -/
import Derived.Test.YtdkdjelbgegmeahDoorRows
import Derived.Test.YtdkdjelbgegmeahDoorDecMath
import Derived.WalkKit
import Derived.ProofKit
namespace Go.Proofs.YtdkdjelbgegmeahDoor
open Go.RowKit
set_option linter.unusedVariables false

theorem sDec_zero (w : World) : Calls Tryd.prog 5 #[.int .i64 0] w fun e w' => e = .returned (.string (txt (Lib.itoa 0))) ∧ w' = w := by
  have e : txt (Lib.itoa 0) = txt [48] := by
    have h := Lib.itoa_nonneg 0
    rw [show Lib.itoa 0 = Lib.decDigits 0 from h, Lib.decDigits_one (by omega)]
    rfl
  rw [e]
  go_enter Tryd.func5, Tryd.ntmps5
  go_wp2
  go_ret
  exact ⟨rfl, rfl⟩

theorem sDec_pos (u : Nat) (w : World) (h0 : 0 < u) (h1 : u ≤ 9223372036854775807) :
    Calls Tryd.prog 5 #[.int .i64 (u : Int)] w fun e w' => e = .returned (.string (txt (Lib.itoa (u : Int)))) ∧ Below w.heap.size w w' := by
  rw [Lib.itoa_nonneg]
  have g1 : ((u : Int) == 0) = false := by simp; omega
  have g2 : decide ((u : Int) < 0) = false := by simp
  go_enter Tryd.func5, Tryd.ntmps5
  go_wp2
  go_loopw [0, 3] (fun x o wr => ∃ (m : Nat) (P : List UInt8), m ≤ 9223372036854775807 ∧ x = .int .i64 (m : Int) ∧ o = .string (txt P) ∧ Hid (decLeft u m P) ∧ Below w.heap.size w wr) (fun x _ _ => (intOf x).toNat)
  case atStart => exact ⟨u, [], h1, rfl, rfl, decLeft_start u h0, Below.refl _ _⟩
  case round =>
    obtain ⟨m, P, hm, rfl, rfl, HD, hb⟩ := hrel
    have hlen : (txt P).size ≤ 21 := decLeft_len u m P HD.out (by omega)
    by_cases hp : 0 < m
    · have g3 : ((m : Int) != 0) = true := by rw [bne_iff_ne]; omega
      have hcv := fun W => conv_one (P := Tryd.prog) 27 9 5 Tryd.underlying27 Tryd.underlying5 Tryd.underlying9 W (48 + (m : Int) % 10) (by omega) (by omega)
      simp only [digB_nat] at hcv
      have hone : (txt [digB m]).size ≤ 1 := by rw [txt_size]; exact Nat.le_refl 1
      go_wp2
      go_roundw
      case rel => exact ⟨m / 10, digB m :: P, by omega, by go_num, by rw [txt_append]; rfl, decLeft_step u m P HD.out hp, hb.alloc hb.size _⟩
      case measure => simp [intOf]; omega
    · obtain rfl : m = 0 := by omega
      have HE : Hid (_ = _) := decLeft_end u P HD.out
      go_wp2
      go_ret
      exact ⟨ret_str (by rw [HE.out]), hb⟩

theorem sDec_neg (u : Nat) (w : World) (h0 : 0 < u) (h1 : u ≤ 9223372036854775808) :
    Calls Tryd.prog 5 #[.int .i64 (-(u : Int))] w fun e w' => e = .returned (.string (txt (Lib.itoa (-(u : Int))))) ∧ Below w.heap.size w w' := by
  rw [Lib.itoa_neg u h0]
  have g1 : (-(u : Int) == 0) = false := by rw [beq_eq_false_iff_ne]; omega
  have g2 : decide (-(u : Int) < 0) = true := by simp; omega
  go_enter Tryd.func5, Tryd.ntmps5
  go_wp2
  go_loopw [0, 3, 5] (fun x o d wr => ∃ (m : Nat) (P : List UInt8), m ≤ 9223372036854775808 ∧ x = .int .i64 (-(m : Int)) ∧ o = .string (txt P) ∧ Hid (decLeft u m P) ∧ Below w.heap.size w wr) (fun x _ _ _ => (- intOf x).toNat)
  case atStart => exact ⟨u, [], h1, rfl, rfl, decLeft_start u h0, Below.refl _ _⟩
  case round =>
    obtain ⟨m, P, hm, rfl, rfl, HD, hb⟩ := hrel
    have hlen : (txt P).size ≤ 21 := decLeft_len u m P HD.out (by omega)
    by_cases hp : 0 < m
    · have g3 : (-(m : Int) != 0) = true := by rw [bne_iff_ne]; omega
      have hq : (-(m : Int)).tdiv 10 = -((m : Int) / 10) := by rw [Int.neg_tdiv, Int.tdiv_eq_ediv_of_nonneg (by omega)]
      have hone : (txt [digB m]).size ≤ 1 := by rw [txt_size]; exact Nat.le_refl 1
      have hcv0 := fun W => conv_one (P := Tryd.prog) 27 9 5 Tryd.underlying27 Tryd.underlying5 Tryd.underlying9 W (48 + (m : Int) % 10) (by omega) (by omega)
      simp only [digB_nat] at hcv0
      have HC : Hid (∀ W, _) := hcv0
      clear hcv0
      by_cases hz : 0 < m % 10
      · have hz' : 0 < (m : Int) % 10 := by omega
        have ht : (-(m : Int)).tmod 10 = -((m : Int) % 10) := by rw [Int.neg_tmod, Int.tmod_eq_emod_of_nonneg (by omega)]
        have hcv := HC.out
        go_wp2
        go_roundw
        case rel => exact ⟨m / 10, digB m :: P, by omega, by go_num, by rw [txt_append]; rfl, decLeft_step u m P HD.out hp, hb.alloc hb.size _⟩
        case measure => simp [intOf]; omega
      · have hz' : (m : Int) % 10 = 0 := by omega
        have ht : (-(m : Int)).tmod 10 = 0 := by rw [Int.neg_tmod, Int.tmod_eq_emod_of_nonneg (by omega), hz']; rfl
        have hcv := HC.out
        rw [hz'] at hcv
        simp only [Int.add_zero] at hcv
        clear hz' hz
        go_wp2
        go_roundw
        case rel => exact ⟨m / 10, digB m :: P, by omega, by go_num, by rw [txt_append]; rfl, decLeft_step u m P HD.out hp, hb.alloc hb.size _⟩
        case measure => simp [intOf]; omega
    · obtain rfl : m = 0 := by omega
      have HE : Hid (_ = _) := decLeft_end u P HD.out
      have h45 : (⟨#[45]⟩ : ByteArray).size ≤ 1 := Nat.le_refl 1
      go_wp2
      go_ret
      exact ⟨ret_str (by rw [HE.out]; exact txt_append [45] _), hb⟩

end Go.Proofs.YtdkdjelbgegmeahDoor
