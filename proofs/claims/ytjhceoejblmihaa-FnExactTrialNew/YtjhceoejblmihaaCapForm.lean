/- Heaps' values no slice of which is longer than its capacity. -/
import Derived.Test.YtjhceoejblmihaaHeap2Walks
namespace Go.Proofs.Ytjhceoejblmihaa
open Go.RowKit
set_option linter.unusedVariables false

/-- No slice of a heap's value is longer than its capacity. -/
def CapH (v : Value) : Prop := ∃ a0 n0 k0 a1 n1 k1 a2 n2 k2 a3 n3 k3, v = .agg #[.slice a0 n0 k0, .slice a1 n1 k1, .slice a2 n2 k2, .slice a3 n3 k3] ∧ n0 ≤ k0 ∧ n1 ≤ k1 ∧ n2 ≤ k2 ∧ n3 ≤ k3
theorem ownH_cap {w : World} {B : Nat} {v : Value} {H : HeapD} (h : OwnH w B v H) : CapH v := by
  obtain ⟨go, gw, vb, vs, rfl, -, -, -, -, -, -, h5, h6⟩ := h
  have hb : ∃ a n k, vb = .slice a n k ∧ n ≤ k := by
    rcases ownI_form h5 with ⟨rfl, -⟩ | ⟨g, cap, rfl, -, -, hc, -, -⟩
    · exact ⟨_, _, _, rfl, Nat.le_refl _⟩
    · exact ⟨_, _, _, rfl, hc⟩
  have hs : ∃ a n k, vs = .slice a n k ∧ n ≤ k := by
    rcases ownS_form h6 with ⟨rfl, -⟩ | ⟨g, cap, rfl, -, -, hc, -, -⟩
    · exact ⟨_, _, _, rfl, Nat.le_refl _⟩
    · exact ⟨_, _, _, rfl, hc⟩
  obtain ⟨a, n, k, rfl, hn⟩ := hb
  obtain ⟨a', n', k', rfl, hn'⟩ := hs
  exact ⟨_, _, _, _, _, _, _, _, _, _, _, _, rfl, Nat.le_refl _, Nat.le_refl _, hn, hn'⟩

end Go.Proofs.Ytjhceoejblmihaa
