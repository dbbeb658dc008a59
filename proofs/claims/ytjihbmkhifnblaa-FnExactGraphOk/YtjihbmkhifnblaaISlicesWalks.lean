/- What impl.within, impl.timesIn, impl.InEdges and, at numbers and texts, slices.Index, Contains and Equal answer. -/
import Derived.Test.YtjihbmkhifnblaaISlotWalks
import Derived.Test.YtjihbmkhifnblaaSEdgesWalks
import Derived.Test.YtjihbmkhifnblaaEqWalks
namespace Go.Proofs.Ytjihbmkhifnblaa
open Go.RowKit
set_option linter.unusedVariables false

theorem within_yes (x lo hi : Int) (w : World) (h1 : lo ≤ x) (h2 : x ≤ hi) :
    Calls Try.prog 61 #[.int .i64 x, .int .i64 lo, .int .i64 hi] w fun e w' => e = .returned (.bool true) ∧ w' = w := by
  go_enter Try.func61, Try.ntmps61
  go_wp2
  go_ret
  exact ⟨rfl, rfl⟩
theorem within_no (x lo hi : Int) (w : World) (h : x < lo ∨ hi < x) :
    Calls Try.prog 61 #[.int .i64 x, .int .i64 lo, .int .i64 hi] w fun e w' => e = .returned (.bool false) ∧ w' = w := by
  by_cases h1 : x < lo
  · clear h
    go_enter Try.func61, Try.ntmps61
    go_wp2
    go_ret
    exact ⟨rfl, rfl⟩
  · have h2 : hi < x := by omega
    have h3 : lo ≤ x := by omega
    clear h
    go_enter Try.func61, Try.ntmps61
    go_wp2
    go_ret
    exact ⟨ret_bb (decide_eq_false (by omega)), rfl⟩

/-- Where a thing stands first in a list; -1 where it doesn't. -/
def idxL {α : Type} [DecidableEq α] (x : α) : List α → Int → Int
  | [], _ => -1
  | y :: r, i => if x = y then i else idxL x r (i + 1)
theorem idxL_step {α : Type} [DecidableEq α] (x : α) (zs : List α) (j : Nat) (h : j < zs.length) : idxL x (zs.drop j) (j : Int) = if x = zs[j] then (j : Int) else idxL x (zs.drop (j + 1)) ((j + 1 : Nat) : Int) := by
  rw [List.drop_eq_getElem_cons h]; simp [idxL]
theorem idxL_end {α : Type} [DecidableEq α] (x : α) (zs : List α) (i : Int) : idxL x (zs.drop zs.length) i = -1 := by rw [List.drop_length]; rfl
theorem idxL_mem {α : Type} [DecidableEq α] (x : α) (zs : List α) : ∀ i, 0 ≤ i → (0 ≤ idxL x zs i ↔ x ∈ zs) := by
  induction zs with
  | nil => intro i _; simp [idxL]
  | cons y r ih =>
    intro i hi
    unfold idxL
    by_cases e : x = y
    · rw [if_pos e]; simp [e, hi]
    · rw [if_neg e, ih (i + 1) (by omega)]; simp [e]

end Go.Proofs.Ytjihbmkhifnblaa
