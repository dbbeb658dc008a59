/- The laws' marks on texts and on heaps: markStringS, heldStringS, markHeap, heldHeap, by the list of what they store. -/
import Derived.Test.YtjhceoejblmihaaMarkOWalks
import Derived.Test.YtjhceoejblmihaaMarkWalks
namespace Go.Proofs.Ytjhceoejblmihaa
open Go.RowKit
set_option linter.unusedVariables false

/-- A store on both sides. -/
theorem below_both {n : Nat} {A B : World} (h : Below n A B) (p : Addr) (v : Value) : Below n (A.setCell p v) (B.setCell p v) := by
  refine ⟨h.os, h.tape, h.output, by simpa [World.setCell] using h.size, fun k hk => ?_⟩
  by_cases e : k = p.block
  · subst e
    have hb := h.block p.block hk
    simp only [World.setCell]
    rw [Array.getElem?_modify, Array.getElem?_modify, if_pos rfl, if_pos rfl, hb]
  · rw [heap_setCell_other _ _ _ _ e, heap_setCell_other _ _ _ _ e, h.block k hk]
theorem stores_both {n : Nat} (L : Sts) : ∀ {A B : World}, Below n A B → Below n (stores A L) (stores B L) := by
  induction L with
  | nil => intro A B h; exact h
  | cons p r ih => intro A B h; exact ih (below_both h _ _)

/-- What markStringS stores. -/
def mkS (a : Option Addr) (k n : Nat) : Sts := match a with
  | none => []
  | some x => (List.range n).map fun j => (⟨x.block, x.off + j, none⟩, .string (txt (mtxt (k + j))))
theorem mkS_zero (a : Option Addr) (k : Nat) : mkS a k 0 = [] := by unfold mkS; cases a <;> rfl
theorem mkS_succ (g off k j : Nat) : mkS (some ⟨g, off, none⟩) k (j + 1) = mkS (some ⟨g, off, none⟩) k j ++ [(⟨g, off + j, none⟩, .string (txt (mtxt (k + j))))] := by
  simp [mkS, List.range_succ]
theorem mkS_at (g off k n j : Nat) (h : j < n) : ((⟨g, off + j, none⟩, .string (txt (mtxt (k + j)))) : Addr × Value) ∈ mkS (some ⟨g, off, none⟩) k n := by
  unfold mkS; exact List.mem_map.2 ⟨j, List.mem_range.2 h, rfl⟩
theorem mkS_block (a : Option Addr) (k n : Nat) (p : Addr × Value) (h : p ∈ mkS a k n) : 0 < n ∧ ∃ x, a = some x ∧ p.1.block = x.block := by
  unfold mkS at h
  cases a with
  | none => simp at h
  | some x =>
    obtain ⟨j, hj, rfl⟩ := List.mem_map.1 h
    have := List.mem_range.1 hj
    exact ⟨by omega, x, rfl, rfl⟩
theorem mkS_nodup (a : Option Addr) (k n : Nat) : ((mkS a k n).map (·.1)).Nodup := by
  unfold mkS
  cases a with
  | none => simp
  | some x =>
    rw [List.map_map]
    refine List.pairwise_map.2 (List.pairwise_lt_range.imp ?_)
    intro i j hij e
    simp at e
    omega

set_option maxHeartbeats 1000000 in
theorem markStringS_st (w : World) (a : Option Addr) (n cap k : Nat) (h : CanI w a n) (hz : n ≤ 16777216) (h0 : 0 < k) (h1 : k ≤ 1000000000000000) :
    Calls Try.prog 56 #[.slice a n cap, .int .i64 (k : Int)] w fun e w' => e = .returned (.int .i64 ((k : Int) + (n : Int))) ∧ Below w.heap.size (stores w (mkS a k n)) w' := by
  have HC : Hid (CanI w a n) := h
  have HS : Hid (∀ g off j, a = some ⟨g, off, none⟩ → mkS a k (j + 1) = mkS a k j ++ [(⟨g, off + j, none⟩, .string (txt (mtxt (k + j))))]) := fun g off j e => by rw [e]; exact mkS_succ g off k j
  have H0 : Hid (Below w.heap.size (stores w (mkS a k 0)) w) := by rw [mkS_zero]; exact Below.refl _ _
  clear h
  go_enter Try.func56, Try.ntmps56
  go_wp2
  go_loopw [1, 5] (fun x i wr => ∃ j : Nat, j ≤ n ∧ i = .int .i64 j ∧ x = .int .i64 ((k : Int) + (j : Int)) ∧ Hid (Below w.heap.size (stores w (mkS a k j)) wr)) (fun _ i _ => n - (intOf i).toNat)
  case atStart => exact ⟨0, by omega, rfl, by simp, H0⟩
  case round =>
    obtain ⟨j, hj, rfl, rfl, HW⟩ := hrel
    by_cases hlt : j < n
    · have C : Hid (∀ X, _) := fun X => markText_calls (k + j) X (by omega) (by omega)
      have e1 : ((k + j : Nat) : Int) = (k : Int) + (j : Int) := by omega
      rw [e1] at C
      clear e1
      go_wp2_with fail
      refine (C.out _).mono ?_
      rintro e w1 ⟨rfl, b1⟩
      have hsz : w.heap.size ≤ wr.heap.size := by have := HW.out.size; rw [stores_size] at this; exact this
      have HW1 : Hid (Below w.heap.size (stores w (mkS a k j)) w1) := HW.out.trans (b1.mono hsz)
      have hc := canI_stores (mkS a k j) HC.out
      obtain ⟨g, off, ha, hg, ⟨x, hx⟩, hf⟩ := hc j hlt
      rw [stores_size] at hg
      rw [← HW1.out.cell (p := ⟨g, off + j, none⟩) hg] at hx
      rw [← HW1.out.frozen (p := ⟨g, off + j, none⟩) hg] at hf
      have HN : Hid (Below w.heap.size (stores w (mkS a k (j + 1))) (w1.setCell ⟨g, off + j, none⟩ (.string (txt (mtxt (k + j)))))) := by
        rw [HS.out g off j ha, stores_append]
        exact below_both HW1.out _ _
      subst ha
      generalize mtxt (k + j) = T at *
      clear hc b1
      go_wp2
      go_roundw
      case rel => exact ⟨j + 1, by omega, by go_num, by go_num, HN⟩
      case measure => simp [intOf]; omega
    · obtain rfl : j = n := by omega
      go_wp2
      go_ret
      exact ⟨rfl, HW.out⟩

set_option maxHeartbeats 1000000 in
theorem heldStringS_at (w : World) (a : Option Addr) (n cap k : Nat) (h : ∀ p ∈ mkS a k n, w.cell? p.1 = some p.2) (ha : 0 < n → ∃ g off, a = some ⟨g, off, none⟩) (hz : n ≤ 16777216) (h0 : 0 < k) (h1 : k ≤ 1000000000000000) :
    Calls Try.prog 76 #[.slice a n cap, .int .i64 (k : Int)] w fun e w' => e = .returned (.int .i64 ((k : Int) + (n : Int))) ∧ Below w.heap.size w w' := by
  have HA : Hid (∀ j, j < n → ∃ g off, a = some ⟨g, off, none⟩ ∧ g < w.heap.size ∧ w.cell? ⟨g, off + j, none⟩ = some (.string (txt (mtxt (k + j))))) := by
    intro j hj
    obtain ⟨g, off, e⟩ := ha (by omega)
    have h2 := h _ (by rw [e]; exact mkS_at g off k n j hj)
    exact ⟨g, off, e, World.block_lt_of_cell? w _ h2, h2⟩
  clear h ha
  go_enter Try.func76, Try.ntmps76
  go_wp2
  go_loopw [1, 5] (fun x i wr => ∃ j : Nat, j ≤ n ∧ i = .int .i64 j ∧ x = .int .i64 ((k : Int) + (j : Int)) ∧ Below w.heap.size w wr) (fun _ i _ => n - (intOf i).toNat)
  case atStart => exact ⟨0, by omega, rfl, by simp, Below.refl _ _⟩
  case round =>
    obtain ⟨j, hj, rfl, rfl, hb⟩ := hrel
    by_cases hlt : j < n
    · obtain ⟨g, off, rfl, hg0, hc0⟩ := HA.out j hlt
      have hg : g < wr.heap.size := Nat.lt_of_lt_of_le hg0 hb.size
      have hc1 := (hb.cell (p := ⟨g, off + j, none⟩) hg0).trans hc0
      have C : Hid (∀ X, _) := fun X => markText_calls (k + j) X (by omega) (by omega)
      have e1 : ((k + j : Nat) : Int) = (k : Int) + (j : Int) := by omega
      rw [e1] at C
      clear e1 hc0
      have hbs := hb.size
      have HCL : Hid (∀ X, Below wr.heap.size wr X → X.cell? ⟨g, off + j, none⟩ = some (.string (txt (mtxt (k + j))))) := fun X hX => (hX.cell (p := ⟨g, off + j, none⟩) hg).trans hc1
      generalize mtxt (k + j) = T at *
      go_wp2
      go_region_with (go_at_call 98; refine (C.out _).mono ?_; rintro e w1 ⟨rfl, b1⟩; have hc2 := HCL.out w1 (undrew b1))
      all_goals
        go_wp2
        go_roundw
        case rel => exact ⟨j + 1, by omega, by go_num, by go_num, hb.trans ((undrew b1).mono hbs)⟩
        case measure => simp [intOf]; omega
    · obtain rfl : j = n := by omega
      go_wp2
      go_ret
      exact ⟨rfl, hb⟩

end Go.Proofs.Ytjhceoejblmihaa
