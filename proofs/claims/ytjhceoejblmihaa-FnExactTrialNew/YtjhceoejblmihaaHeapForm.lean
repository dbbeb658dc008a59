/- The form of a heap's value. -/
import Derived.Test.YtjhceoejblmihaaOpenHeap
import Derived.Deep.RegionHeld
namespace Go.Proofs.Ytjhceoejblmihaa
open Go.RowKit

theorem rdH_form {w : World} {v : Value} {H : HeapD} (r : RdH w v H) : ∃ a0 n0 k0 a1 n1 k1 a2 n2 k2 a3 n3 k3, v = .agg #[.slice a0 n0 k0, .slice a1 n1 k1, .slice a2 n2 k2, .slice a3 n3 k3] := by
  obtain ⟨ao, co, aw, cw, ab, cb, sa, sc, h, _⟩ := r
  exact ⟨_, _, _, _, _, _, _, _, _, _, _, _, h⟩

end Go.Proofs.Ytjhceoejblmihaa
