/- What spec.l5Ints and spec.SameHeap answer. -/
import Derived.Test.YtjihbmkhifnblabHeapBase
namespace Go.Proofs.Ytjihbmkhifnblab
open Go.RowKit
set_option linter.unusedVariables false

theorem ret_q {a b : Bool} (h : a = b) : Ending.returned (.bool a) = .returned (.bool b) := by rw [h]

theorem take_next {α : Type} (zs ys : List α) (j : Nat) (h1 : j < zs.length) (h2 : j < ys.length) (h : zs.take j = ys.take j) : zs.take (j + 1) = ys.take (j + 1) ↔ zs[j] = ys[j] := by
  rw [List.take_succ_eq_append_getElem h1, List.take_succ_eq_append_getElem h2, h]
  constructor
  · intro e; exact (List.cons.inj (List.append_cancel_left e)).1
  · intro e; rw [e]
theorem take_of_eq {α : Type} {zs ys : List α} (h : zs = ys) (j : Nat) : zs.take j = ys.take j := by rw [h]
theorem eq_of_takes {α : Type} {zs ys : List α} (hl : zs.length = ys.length) (h : zs.take zs.length = ys.take zs.length) : zs = ys := by
  rw [List.take_length, hl, List.take_length] at h
  exact h

theorem l5Ints_calls (w : World) (a b : Option Addr) (cap cap2 : Nat) (zs ys : List Int) (q : Bool) (h1 : RdI w a zs) (h2 : RdI w b ys) (hz : zs.length ≤ 16777216) (hy : ys.length ≤ 16777216) (hq : q = true ↔ zs = ys) :
    Calls Try.prog 12 #[.slice a zs.length cap, .slice b ys.length cap2] w fun e w' => e = .returned (.bool q) ∧ Below w.heap.size w w' := by
  have HA : Hid (RdI w a zs) := h1
  have HB : Hid (RdI w b ys) := h2
  have HQ : Hid (q = true ↔ zs = ys) := hq
  clear h1 h2 hq
  by_cases hl : zs.length = ys.length
  · have HN : Hid (∀ (j : Nat) (h1 : j < zs.length) (h2 : j < ys.length), zs.take j = ys.take j → _) := fun j h1 h2 h => take_next zs ys j h1 h2 h
    have HT : Hid (zs = ys → ∀ j, zs.take j = ys.take j) := fun h j => take_of_eq h j
    have HF : Hid (zs.take zs.length = ys.take zs.length → zs = ys) := eq_of_takes hl
    obtain ⟨n, hn⟩ : ∃ n, zs.length = n := ⟨_, rfl⟩
    have Hn : Hid (zs.length = n) := hn
    have Hm : Hid (ys.length = n) := by show _ = _; omega
    rw [← hl, hn] at hy ⊢
    rw [hn] at hz HF
    clear hn hl
    go_enter Try.func12, Try.ntmps12
    go_wp2
    go_loopw [5] (fun i wr => ∃ j : Nat, j ≤ n ∧ i = .int .i64 j ∧ Below w.heap.size w wr ∧ Hid (∀ p, wr.cell? p = w.cell? p) ∧ Hid (zs.take j = ys.take j)) (fun i _ => n - (intOf i).toNat)
    case atStart => exact ⟨0, by omega, rfl, Below.refl _ _, fun _ => rfl, rfl⟩
    case round =>
      obtain ⟨j, hj, rfl, hb, HW, HE⟩ := hrel
      by_cases hlt : j < n
      · have hj2 : j < zs.length := by have := Hn.out; omega
        have hj3 : j < ys.length := by have := Hm.out; omega
        obtain ⟨g, off, rfl, -, hc1⟩ := HA.out j hj2
        obtain ⟨g2, off2, rfl, -, hc2⟩ := HB.out j hj3
        rw [← HW.out] at hc1 hc2
        have HN2 : Hid (_ ↔ _) := HN.out j hj2 hj3 HE.out
        generalize zs[j] = z at *
        generalize ys[j] = y at *
        by_cases he : z = y
        · have HE2 : Hid (zs.take (j + 1) = ys.take (j + 1)) := HN2.out.2 he
          subst he
          go_wp2
          go_region
          all_goals
            go_wp2
            go_roundw
            case rel => exact ⟨j + 1, by omega, by go_num, hb.drew, fun p => HW.out p, HE2⟩
            case measure => simp [intOf]; omega
        · have HR : Hid (q = false) := by
            show _ = _
            rw [← Bool.not_eq_true]
            intro h
            exact he (HN2.out.1 (HT.out (HQ.out.1 h) (j + 1)))
          have hne : (z != y) = true := by rw [bne_iff_ne]; exact he
          go_wp2
          go_region
          all_goals
            go_wp2
            go_ret
            exact ⟨ret_q HR.out.symm, hb.drew⟩
      · obtain rfl : j = n := by omega
        have HR : Hid (q = true) := HQ.out.2 (HF.out HE.out)
        go_wp2
        go_ret
        exact ⟨ret_q HR.out.symm, hb⟩
  · have HR : Hid (q = false) := by
      show _ = _
      rw [← Bool.not_eq_true]
      intro h
      exact hl (by rw [HQ.out.1 h])
    have hne : ((zs.length : Int) != (ys.length : Int)) = true := by rw [bne_iff_ne]; omega
    go_enter Try.func12, Try.ntmps12
    go_wp2
    go_ret
    exact ⟨ret_q HR.out.symm, Below.refl _ _⟩

end Go.Proofs.Ytjihbmkhifnblab
