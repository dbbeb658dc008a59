/- What spec.Fixed and impl.Fixed answer, at every argument. -/
import Derived.Test.YtcjpepdagnifiaaDoorRows
import Derived.Test.YtcjpepdagnifiaaDoorFixMath
import Derived.Test.YtcjpepdagnifiaaDoorRfWalks
import Derived.WalkKit
import Derived.ProofKit
namespace Go.Proofs.YtcjpepdagnifiaaDoor
open Go.RowKit
set_option linter.unusedVariables false

theorem sFixed_no (n k : Int) (w : World) (h : k < 1 ∨ 7 < k ∨ n < 0) :
    Calls Tryd.prog 84 #[.int .i64 n, .int .i64 k] w fun e w' => e = .returned (.string (txt [])) ∧ w' = w := by
  by_cases h1 : k < 1 ∨ 7 < k
  · go_enter Tryd.func84, Tryd.ntmps84
    go_wp2_with (go_at_call 74; refine (l1In_no _ _ _ _ h1).mono ?_; rintro e w' ⟨rfl, rfl⟩)
    go_ret
    exact ⟨rfl, rfl⟩
  · have h2 : n < 0 := by omega
    have h3 : 1 ≤ k := by omega
    have h4 : k ≤ 7 := by omega
    go_enter Tryd.func84, Tryd.ntmps84
    go_wp2_with (go_at_call 74; refine (l1In_yes _ _ _ _ h3 h4).mono ?_; rintro e w' ⟨rfl, rfl⟩)
    go_ret
    exact ⟨rfl, rfl⟩

theorem sFixed_yes (n k : Nat) (w : World) (hn : n ≤ 9223372036854775807) (h1 : 1 ≤ k) (h2 : k ≤ 7) :
    Calls Tryd.prog 84 #[.int .i64 n, .int .i64 k] w fun e w' => e = .returned (.string (if sh n k = 0 then txt (low n k) else txt [])) ∧ Below w.heap.size w w' := by
  have g1 : (1 : Int) ≤ (k : Int) := by omega
  have g2 : (k : Int) ≤ 7 := by omega
  have g3 : (0 : Int) ≤ (n : Int) := by omega
  have g4 : decide ((n : Int) < 0) = false := by simp
  go_enter Tryd.func84, Tryd.ntmps84
  go_wp2_with (go_at_call 74; refine (l1In_yes _ _ _ _ g1 g2).mono ?_; rintro e w' ⟨rfl, rfl⟩)
  go_loopw [0, 5, 6] (fun x o i wr => ∃ j : Nat, j ≤ k ∧ i = .int .i64 j ∧ o = .string (txt (low n j)) ∧ x = .int .i64 ((sh n j : Nat) : Int) ∧ Below w'.heap.size w' wr) (fun _ _ i _ => k - (intOf i).toNat)
  case atStart => exact ⟨0, Nat.zero_le _, rfl, rfl, by rw [sh_zero], Below.refl _ _⟩
  case round =>
    obtain ⟨j, hj, rfl, rfl, rfl, hb⟩ := hrel
    have hle := sh_le n j
    have hlen : (txt (low n j)).size ≤ 7 := by rw [txt_size, low_length]; omega
    by_cases hlt : j < k
    · have HS : Hid (_ = _) := sh_succ n j
      have HM : Hid (_ = _) := ofNat_mod (sh n j)
      have hcv := fun W => conv_one (P := Tryd.prog) 96 9 5 Tryd.underlying96 Tryd.underlying5 Tryd.underlying9 W ((sh n j : Int) % 256) (by omega) (by omega)
      have hone : (txt [UInt8.ofNat (sh n j % 256)]).size ≤ 1 := by rw [txt_size]; exact Nat.le_refl 1
      go_wp2
      go_roundw
      case rel => exact ⟨j + 1, by omega, by go_num, by rw [txt_append, HM.out]; rfl, by rw [HS.out]; go_num, hb.alloc hb.size _⟩
      case measure => simp [intOf]; omega
    · obtain rfl : j = k := by omega
      by_cases hz : sh n j < 1
      · go_wp2
        go_ret
        exact ⟨ret_str rfl, hb⟩
      · have hz1 : 0 < sh n j := by omega
        go_wp2
        go_ret
        exact ⟨ret_str rfl, hb⟩

end Go.Proofs.YtcjpepdagnifiaaDoor
