/- What impl.Fixed answers, at every argument. -/
import Derived.Test.YthagjamgmlbhkaaDoorRows
import Derived.Test.YthagjamgmlbhkaaDoorFixMath
import Derived.Test.YthagjamgmlbhkaaDoorPutWalks
import Derived.WalkKit
import Derived.ProofKit
namespace Go.Proofs.YthagjamgmlbhkaaDoor
open Go.RowKit
set_option linter.unusedVariables false

theorem iFixed_no (n k : Int) (w : World) (h : k < 1 ∨ 7 < k ∨ n < 0) :
    Calls Tryd.prog 47 #[.int .i64 n, .int .i64 k] w fun e w' => e = .returned (.string (txt [])) ∧ w' = w := by
  by_cases h1 : k < 1
  · go_enter Tryd.func47, Tryd.ntmps47
    go_wp2
    go_ret
    exact ⟨rfl, rfl⟩
  · by_cases h2 : 7 < k
    · go_enter Tryd.func47, Tryd.ntmps47
      go_wp2
      go_ret
      exact ⟨rfl, rfl⟩
    · have h3 : n < 0 := by omega
      go_enter Tryd.func47, Tryd.ntmps47
      go_wp2
      go_ret
      exact ⟨rfl, rfl⟩

theorem iFixed_big (n k : Nat) (w : World) (hn : n ≤ 9223372036854775807) (h1 : 1 ≤ k) (h2 : k ≤ 7) (hz : 0 < sh n k) :
    Calls Tryd.prog 47 #[.int .i64 n, .int .i64 k] w fun e w' => e = .returned (.string (txt [])) ∧ w' = w := by
  have g1 : decide ((k : Int) < 1) = false := by simp; omega
  have g2 : decide (7 < (k : Int)) = false := by simp; omega
  have g4 : decide ((n : Int) < 0) = false := by simp
  have g5 : ((n : Int) / 2 ^ (8 * k) != 0) = true := by rw [sh_pow, bne_iff_ne]; omega
  go_enter Tryd.func47, Tryd.ntmps47
  go_wp2
  go_ret
  exact ⟨rfl, rfl⟩

theorem iFixed_yes (n k : Nat) (w : World) (hn : n ≤ 9223372036854775807) (h1 : 1 ≤ k) (h2 : k ≤ 7) (hz : sh n k = 0) :
    Calls Tryd.prog 47 #[.int .i64 n, .int .i64 k] w fun e w' => e = .returned (.string (txt (low n k))) ∧ Below w.heap.size w w' := by
  have g1 : decide ((k : Int) < 1) = false := by simp; omega
  have g2 : decide (7 < (k : Int)) = false := by simp; omega
  have g4 : decide ((n : Int) < 0) = false := by simp
  have g5 : ((n : Int) / 2 ^ (8 * k) != 0) = false := by rw [sh_pow, hz]; rfl
  have hmk := make_row k (by omega)
  clear hz
  go_enter Tryd.func47, Tryd.ntmps47
  go_wp2
  go_loopw [6, 7] (fun a i wr => ∃ j r : Nat, Hid (j + r = k) ∧ a = .int .i64 j ∧ i = .int .i64 ((r : Int) - 1) ∧ Hid (wr.heap[w.heap.size]? = some (.cells (rowB k ((low n k).take j)).toArray 5 (0, 0))) ∧ Below w.heap.size w wr) (fun _ i _ => (intOf i + 1).toNat)
  case atStart => exact ⟨0, k, by show 0 + k = k; omega, rfl, rfl, (by show (w.heap.push _)[w.heap.size]? = _; simp), (Below.refl _ _).alloc (Nat.le_refl _) _⟩
  case round =>
    obtain ⟨j, r, hjr, rfl, rfl, hrow, hb⟩ := hrel
    by_cases hlt : 0 < r
    · obtain ⟨r, rfl⟩ : ∃ r', r = r' + 1 := ⟨r - 1, by omega⟩
      have hr7 : r ≤ 6 := by have := hjr.out; omega
      have HT : Hid (_ = _) := low_take n j r
      have hl : Hid ((j : Int) = (((low n k).take j).length : Int)) := by
        show (j : Int) = _
        rw [List.length_take, low_length]; have := hjr.out; omega
      go_wp2_with fail
      refine (put_calls k w.heap.size ((low n k).take j) [UInt8.ofNat (sh n r)] _ 1 1 ⟨wr.heap.size, 0, none⟩ _ (heap_alloc_old _ _ _ _ hrow.out) hl.out rfl (by simp) (by have h3 := hl.out; have h4 := hjr.out; simp only [List.length_singleton]; omega) (by omega) (src_one wr _ _ (sh_byte n r)) w.heap.size w (hb.alloc hb.size _) (Nat.le_refl _)).mono ?_
      rintro e w1 ⟨rfl, hrow1, hb1⟩
      go_wp2
      go_roundw
      case rel =>
        refine ⟨j + 1, r, (by show j + 1 + r = k; have := hjr.out; omega), by go_num, by go_num, ?_, hb1⟩
        obtain rfl : k = j + r + 1 := by have := hjr.out; omega
        rw [HT.out]; exact hrow1
      case measure => simp [intOf]
    · obtain rfl : r = 0 := by omega
      obtain rfl : j = k := by have := hjr.out; omega
      have hcv : (convert 22 9 (.slice (some ⟨w.heap.size, 0, none⟩) j j)).run Tryd.prog wr = .ok (.string (txt (low n j))) wr := by
        have h := hrow.out
        rw [List.take_of_length_le (by rw [low_length]; omega)] at h
        have h2 := conv_row j w.heap.size j (low n j) wr h
        rw [low_length] at h2
        exact h2
      go_wp2
      go_ret
      exact ⟨rfl, hb⟩

end Go.Proofs.YthagjamgmlbhkaaDoor
