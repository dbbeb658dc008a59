/- What spec.Var answers, at every argument. -/
import Derived.Test.YtcjpepdagnifiaaDoorRfWalks
import Derived.Test.YtcjpepdagnifiaaDoorVarMath
import Derived.Test.YtcjpepdagnifiaaDoorOwnB
namespace Go.Proofs.YtcjpepdagnifiaaDoor
open Go.RowKit
set_option linter.unusedVariables false

theorem sVar_no (n : Int) (w : World) (h : n < 0 ∨ 562949953421311 < n) :
    Calls Tryd.prog 49 #[.int .i64 n] w fun e w' => e = .returned (.string (txt [])) ∧ w' = w := by
  go_enter Tryd.func49, Tryd.ntmps49
  go_wp2_with (go_at_call 74; refine (l1In_no _ _ _ _ h).mono ?_; rintro e w' ⟨rfl, rfl⟩)
  go_ret
  exact ⟨rfl, rfl⟩

set_option maxRecDepth 100000 in
theorem sVar_yes (n : Nat) (w : World) (hn : n ≤ 562949953421311) :
    Calls Tryd.prog 49 #[.int .i64 n] w fun e w' => e = .returned (.string (txt (varB 6 n))) ∧ Below w.heap.size w w' := by
  have g1 : (0 : Int) ≤ (n : Int) := by omega
  have g2 : (n : Int) ≤ 562949953421311 := by omega
  go_enter Tryd.func49, Tryd.ntmps49
  go_wp2_with (go_at_call 74; refine (l1In_yes _ _ _ _ g1 g2).mono ?_; rintro e w' ⟨rfl, rfl⟩)
  go_loopw [0, 3] (fun x v wr => ∃ (P : List UInt8) (f m : Nat), Hid (varB 6 n = P ++ varB f m) ∧ Hid (P.length + f = 6) ∧ Hid (m < vlim f) ∧ x = .int .i64 m ∧ ownB wr w'.heap.size v P ∧ Below w'.heap.size w' wr) (fun x _ _ => (intOf x).toNat)
  case atStart => exact ⟨[], 6, n, rfl, rfl, (by show n < 128 ^ 7; omega), rfl, ownB_new _ _ (Nat.le_refl _), (Below.refl _ _).alloc (Nat.le_refl _) _⟩
  case round =>
    obtain ⟨P, f, m, HP, HL, hm, rfl, hown, hb⟩ := hrel
    have hv : m ≤ 562949953421311 := by have h1 := vlim_le f (by have := HL.out; omega); have h2 := hm.out; omega
    by_cases hlt : 128 ≤ m
    · obtain ⟨f, rfl⟩ : ∃ f', f = f' + 1 := by
        cases f with
        | zero => have h2 := hm.out; rw [vlim_zero] at h2; omega
        | succ f => exact ⟨f, rfl⟩
      go_wp2_with (at_builtin; refine wpList_appendB rfl _ _ rfl w'.heap.size _ P rfl (ownB_alloc _ _ _ _ _ hown) ⟨wr.heap.size, 0, none⟩ [hiB m] 1 1 rfl rfl ?hsrc ?hlen w' (hb.alloc hb.size _) (Nat.le_refl _) ?_)
      case hsrc => exact src_one wr _ _ (byte_hi m)
      case hlen => have := HL.out; simp only [List.length_singleton]; omega
      · intro v1 w1 hown1 hb1
        go_wp2
        go_roundw
        case rel =>
          refine ⟨P ++ [hiB m], f, m / 128, ?_, ?_, vlim_div f m hm.out, by go_num, hown1, hb1⟩
          · show _ = _
            rw [HP.out, varB_great f m hlt]; simp
          · show _ = _
            have := HL.out; simp only [List.length_append, List.length_singleton]; omega
        case measure => simp [intOf]; omega
    · have hlt' : m < 128 := by omega
      go_wp2_with (at_builtin; refine wpList_appendB rfl _ _ rfl w'.heap.size _ P rfl (ownB_alloc _ _ _ _ _ hown) ⟨wr.heap.size, 0, none⟩ [UInt8.ofNat m] 1 1 rfl rfl ?hsrc ?hlen w' (hb.alloc hb.size _) (Nat.le_refl _) ?_)
      case hsrc => exact src_one wr _ _ (byte_lo m hlt')
      case hlen => have := HL.out; simp only [List.length_singleton]; omega
      · intro v1 w1 hown1 hb1
        have hcv := conv_own _ _ _ _ hown1
        go_wp2
        go_ret
        exact ⟨ret_str (by rw [HP.out, varB_small f m hlt']), hb1⟩

end Go.Proofs.YtcjpepdagnifiaaDoor
