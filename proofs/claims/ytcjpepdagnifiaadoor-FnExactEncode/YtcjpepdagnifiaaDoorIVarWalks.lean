/- What impl.Var answers, at every argument. -/
import Derived.Test.YtcjpepdagnifiaaDoorRows
import Derived.Test.YtcjpepdagnifiaaDoorVarMath
import Derived.Test.YtcjpepdagnifiaaDoorPutWalks
namespace Go.Proofs.YtcjpepdagnifiaaDoor
open Go.RowKit
set_option linter.unusedVariables false

theorem iVar_no (n : Int) (w : World) (h : n < 0 ∨ 562949953421311 < n) :
    Calls Tryd.prog 89 #[.int .i64 n] w fun e w' => e = .returned (.string (txt [])) ∧ w' = w := by
  by_cases h1 : n < 0
  · go_enter Tryd.func89, Tryd.ntmps89
    go_wp2
    go_ret
    exact ⟨rfl, rfl⟩
  · have h2 : 562949953421311 < n := by omega
    go_enter Tryd.func89, Tryd.ntmps89
    go_wp2
    go_ret
    exact ⟨rfl, rfl⟩

theorem make7 (u : World) : (Instr.makeSlice 96 (.int .i64 7) (.int .i64 7)).run Tryd.prog u = .ok (.slice (some ⟨u.heap.size, 0, none⟩) 7 7) (u.alloc (.cells (rowB 7 []).toArray 5)) := make_row 7 (by omega) u

set_option maxRecDepth 100000 in
theorem iVar_yes (n : Nat) (w : World) (hn : n ≤ 562949953421311) :
    Calls Tryd.prog 89 #[.int .i64 n] w fun e w' => e = .returned (.string (txt (varB 6 n))) ∧ Below w.heap.size w w' := by
  have g1 : decide ((n : Int) < 0) = false := by simp
  have g2 : decide (562949953421311 < (n : Int)) = false := by simp; omega
  have hmk := make7
  go_enter Tryd.func89, Tryd.ntmps89
  go_wp2
  go_loopw [0, 4] (fun x a wr => ∃ (P : List UInt8) (f m : Nat), Hid (varB 6 n = P ++ varB f m) ∧ Hid (P.length + f = 6) ∧ Hid (m < vlim f) ∧ x = .int .i64 m ∧ a = .int .i64 (P.length : Int) ∧ Hid (wr.heap[w.heap.size]? = some (.cells (rowB 7 P).toArray 5 (0, 0))) ∧ Below w.heap.size w wr) (fun x _ _ => (intOf x).toNat)
  case atStart => exact ⟨[], 6, n, rfl, rfl, (by show n < 128 ^ 7; omega), rfl, rfl, (by show (w.heap.push _)[w.heap.size]? = _; simp), (Below.refl _ _).alloc (Nat.le_refl _) _⟩
  case round =>
    obtain ⟨P, f, m, HP, HL, hm, rfl, rfl, hrow, hb⟩ := hrel
    have hv : m ≤ 562949953421311 := by have h1 := vlim_le f (by have := HL.out; omega); have h2 := hm.out; omega
    have hPl : P.length ≤ 6 := by have := HL.out; omega
    by_cases hlt : 128 ≤ m
    · obtain ⟨f, rfl⟩ : ∃ f', f = f' + 1 := by
        cases f with
        | zero => have h2 := hm.out; rw [vlim_zero] at h2; omega
        | succ f => exact ⟨f, rfl⟩
      go_wp2_with fail
      refine (put_calls 7 w.heap.size P [hiB m] _ 1 1 ⟨wr.heap.size, 0, none⟩ _ (heap_alloc_old _ _ _ _ hrow.out) rfl rfl (by simp) (by simp only [List.length_singleton]; omega) (by omega) (src_one wr _ _ (byte_bits m hv)) w.heap.size w (hb.alloc hb.size _) (Nat.le_refl _)).mono ?_
      rintro e w1 ⟨rfl, hrow1, hb1⟩
      go_wp2
      go_roundw
      case rel =>
        refine ⟨P ++ [hiB m], f, m / 128, ?_, ?_, vlim_div f m hm.out, by go_num, ?_, hrow1, hb1⟩
        · show _ = _
          rw [HP.out, varB_great f m hlt]; simp
        · show _ = _
          have := HL.out; simp only [List.length_append, List.length_singleton]; omega
        · simp
      case measure => simp [intOf]; omega
    · have hlt' : m < 128 := by omega
      go_wp2_with fail
      refine (put_calls 7 w.heap.size P [UInt8.ofNat m] _ 1 1 ⟨wr.heap.size, 0, none⟩ _ (heap_alloc_old _ _ _ _ hrow.out) rfl rfl (by simp) (by simp only [List.length_singleton]; omega) (by omega) (src_one wr _ _ (byte_lo m hlt')) w.heap.size w (hb.alloc hb.size _) (Nat.le_refl _)).mono ?_
      rintro e w1 ⟨rfl, hrow1, hb1⟩
      have hcv : (convert 96 9 (.slice (some ⟨w.heap.size, 0, none⟩) (P.length + 1) 7)).run Tryd.prog w1 = .ok (.string (txt (varB 6 n))) w1 := by
        have h2 := conv_row 7 w.heap.size 7 (P ++ [UInt8.ofNat m]) w1 hrow1.out
        rw [List.length_append, List.length_singleton] at h2
        rw [HP.out, varB_small f m hlt']
        exact h2
      go_wp2
      go_ret
      exact ⟨rfl, hb1⟩

end Go.Proofs.YtcjpepdagnifiaaDoor
