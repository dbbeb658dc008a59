/- The laws' marks on rows that may be written: markIntS, heldIntS, markWeakS, heldWeakS, by the list of what they store. -/
import Derived.Test.YtjhceoejblmihaaStoreMath
namespace Go.Proofs.Ytjhceoejblmihaa
open Go.RowKit
set_option linter.unusedVariables false

theorem markIntS_st (w : World) (a : Option Addr) (n cap : Nat) (k : Int) (h : CanI w a n) (hz : n ≤ 16777216) (h0 : 0 ≤ k) (h1 : k ≤ 1000000000000000) :
    Calls Try.prog 23 #[.slice a n cap, .int .i64 k] w fun e w' => e = .returned (.int .i64 (k + (n : Int))) ∧ w' = stores w (mkI a k n) := by
  have HC : Hid (CanI w a n) := h
  have HS : Hid (∀ g off j, a = some ⟨g, off, none⟩ → mkI a k (j + 1) = mkI a k j ++ [(⟨g, off + j, none⟩, .int .i64 (k + (j : Int)))]) := fun g off j e => by rw [e]; exact mkI_succ g off k j
  have H0 : Hid (w = stores w (mkI a k 0)) := by show _ = _; rw [mkI_zero]; rfl
  clear h
  go_enter Try.func23, Try.ntmps23
  go_wp2
  go_loopw [1, 5] (fun x i wr => ∃ j : Nat, j ≤ n ∧ i = .int .i64 j ∧ x = .int .i64 (k + (j : Int)) ∧ Hid (wr = stores w (mkI a k j))) (fun _ i _ => n - (intOf i).toNat)
  case atStart => exact ⟨0, by omega, rfl, by simp, H0⟩
  case round =>
    obtain ⟨j, hj, rfl, rfl, HW⟩ := hrel
    by_cases hlt : j < n
    · have hc := canI_stores (mkI a k j) HC.out
      rw [← HW.out] at hc
      obtain ⟨g, off, ha, -, ⟨x, hx⟩, hf⟩ := hc j hlt
      have HN : Hid (wr.setCell ⟨g, off + j, none⟩ (.int .i64 (k + (j : Int))) = stores w (mkI a k (j + 1))) := by
        show _ = _
        rw [HS.out g off j ha, stores_append, ← HW.out]; rfl
      subst ha
      clear hc
      go_wp2
      go_roundw
      case rel => exact ⟨j + 1, by omega, by go_num, by go_num, HN⟩
      case measure => simp [intOf]; omega
    · obtain rfl : j = n := by omega
      go_wp2
      go_ret
      exact ⟨rfl, HW.out⟩

theorem heldIntS_at (w : World) (a : Option Addr) (n cap : Nat) (k : Int) (h : ∀ p ∈ mkI a k n, w.cell? p.1 = some p.2) (ha : 0 < n → ∃ g off, a = some ⟨g, off, none⟩) (hz : n ≤ 16777216) (h0 : 0 ≤ k) (h1 : k ≤ 1000000000000000) :
    Calls Try.prog 24 #[.slice a n cap, .int .i64 k] w fun e w' => e = .returned (.int .i64 (k + (n : Int))) ∧ w' = w := by
  have HC : Hid (∀ j, j < n → ∃ g off, a = some ⟨g, off, none⟩ ∧ w.cell? ⟨g, off + j, none⟩ = some (.int .i64 (k + (j : Int)))) := by
    intro j hj
    obtain ⟨g, off, e⟩ := ha (by omega)
    exact ⟨g, off, e, h _ (by rw [e]; exact mkI_at g off k n j hj)⟩
  clear h ha
  go_enter Try.func24, Try.ntmps24
  go_wp2
  go_loop [1, 5] (fun x i => ∃ j : Nat, j ≤ n ∧ i = .int .i64 j ∧ x = .int .i64 (k + (j : Int))) (fun _ i => n - (intOf i).toNat)
  case atStart => exact ⟨0, by omega, rfl, by simp⟩
  case round =>
    obtain ⟨j, hj, rfl, rfl⟩ := hrel
    by_cases hlt : j < n
    · obtain ⟨g, off, rfl, hc1⟩ := HC.out j hlt
      go_wp2
      go_round
      case rel => exact ⟨j + 1, by omega, by go_num, by go_num⟩
      case measure => simp [intOf]; omega
    · obtain rfl : j = n := by omega
      go_wp2
      go_ret
      exact ⟨rfl, rfl⟩

theorem markWeakS_st (w : World) (a : Option Addr) (n cap : Nat) (k : Int) (h : CanW w a n) (hz : n ≤ 16777216) (h0 : 0 ≤ k) (h1 : k ≤ 1000000000000000) :
    Calls Try.prog 55 #[.slice a n cap, .int .i64 k] w fun e w' => e = .returned (.int .i64 (k + 2 * (n : Int))) ∧ w' = stores w (mkW a k n) := by
  have HC : Hid (CanW w a n) := h
  have HS : Hid (∀ g off j, a = some ⟨g, off, none⟩ → mkW a k (j + 1) = mkW a k j ++ [(⟨g, off + j * 2, none⟩, .bool (b3 (k + 2 * (j : Int)))), (⟨g, off + j * 2 + 1, none⟩, .int .i64 (k + 2 * (j : Int) + 1))]) := fun g off j e => by rw [e]; exact mkW_succ g off k j
  have H0 : Hid (w = stores w (mkW a k 0)) := by show _ = _; rw [mkW_zero]; rfl
  clear h
  go_enter Try.func55, Try.ntmps55
  go_wp2
  go_loopw [1, 5] (fun x i wr => ∃ j : Nat, j ≤ n ∧ i = .int .i64 j ∧ x = .int .i64 (k + 2 * (j : Int)) ∧ Hid (wr = stores w (mkW a k j))) (fun _ i _ => n - (intOf i).toNat)
  case atStart => exact ⟨0, by omega, rfl, by simp, H0⟩
  case round =>
    obtain ⟨j, hj, rfl, rfl, HW⟩ := hrel
    by_cases hlt : j < n
    · have hc := canW_stores (mkW a k j) HC.out
      rw [← HW.out] at hc
      obtain ⟨g, off, ha, -, ⟨x, hx⟩, hf, ⟨y, hy⟩, hf2⟩ := hc j hlt
      have HN : Hid ((wr.setCell ⟨g, off + j * 2, none⟩ (.bool (b3 (k + 2 * (j : Int))))).setCell ⟨g, off + j * 2 + 1, none⟩ (.int .i64 (k + 2 * (j : Int) + 1)) = stores w (mkW a k (j + 1))) := by
        show _ = _
        rw [HS.out g off j ha, stores_append, ← HW.out]; rfl
      subst ha
      clear hc
      go_wp2
      go_roundw
      case rel => exact ⟨j + 1, by omega, by go_num, by go_num, HN⟩
      case measure => simp [intOf]; omega
    · obtain rfl : j = n := by omega
      go_wp2
      go_ret
      exact ⟨rfl, HW.out⟩

theorem heldWeakS_at (w : World) (a : Option Addr) (n cap : Nat) (k : Int) (h : ∀ p ∈ mkW a k n, w.cell? p.1 = some p.2) (ha : 0 < n → ∃ g off, a = some ⟨g, off, none⟩) (hz : n ≤ 16777216) (h0 : 0 ≤ k) (h1 : k ≤ 1000000000000000) :
    Calls Try.prog 75 #[.slice a n cap, .int .i64 k] w fun e w' => e = .returned (.int .i64 (k + 2 * (n : Int))) ∧ Below w.heap.size w w' := by
  have HC : Hid (∀ j, j < n → ∃ g off, a = some ⟨g, off, none⟩ ∧ g < w.heap.size ∧ w.cell? ⟨g, off + j * 2, none⟩ = some (.bool (b3 (k + 2 * (j : Int)))) ∧ w.cell? ⟨g, off + j * 2 + 1, none⟩ = some (.int .i64 (k + 2 * (j : Int) + 1))) := by
    intro j hj
    obtain ⟨g, off, e⟩ := ha (by omega)
    have h2 := h _ (by rw [e]; exact (mkW_at g off k n j hj).1)
    exact ⟨g, off, e, World.block_lt_of_cell? w _ h2, h2, h _ (by rw [e]; exact (mkW_at g off k n j hj).2)⟩
  clear h ha
  go_enter Try.func75, Try.ntmps75
  go_wp2
  go_loopw [1, 5] (fun x i wr => ∃ j : Nat, j ≤ n ∧ i = .int .i64 j ∧ x = .int .i64 (k + 2 * (j : Int)) ∧ Below w.heap.size w wr) (fun _ i _ => n - (intOf i).toNat)
  case atStart => exact ⟨0, by omega, rfl, by simp, Below.refl _ _⟩
  case round =>
    obtain ⟨j, hj, rfl, rfl, hb⟩ := hrel
    by_cases hlt : j < n
    · obtain ⟨g, off, rfl, hg, hc1, hc2⟩ := HC.out j hlt
      rw [← hb.cell (p := ⟨g, off + j * 2, none⟩) hg] at hc1
      rw [← hb.cell (p := ⟨g, off + j * 2 + 1, none⟩) hg] at hc2
      go_wp2
      go_roundw
      case rel => exact ⟨j + 1, by omega, by go_num, by go_num, hb⟩
      case measure => simp [intOf]; omega
    · obtain rfl : j = n := by omega
      go_wp2
      go_ret
      exact ⟨rfl, hb⟩

end Go.Proofs.Ytjhceoejblmihaa
