/- What impl.parted answers: two views of one row. -/
import Derived.Test.YtcjpepdagnifiaaDoorPutWalks
namespace Go.Proofs.YtcjpepdagnifiaaDoor
open Go.RowKit
set_option linter.unusedVariables false

theorem parted_in (g L k c : Nat) (w : World) (hk : k ≤ L) (hL : L ≤ c) (hkc : k < c) (hc : c ≤ 9223372036854775807) :
    Calls Tryd.prog 107 #[.slice (some ⟨g, 0, none⟩) L c, .int .i64 (k : Int)] w fun e w' =>
      e = .returned (.tuple #[.slice (some ⟨g, 0, none⟩) k k, .slice (some ⟨g, k, none⟩) (L - k) (c - k)]) ∧ w' = w.drew := by
  have hk1 : (0 : Int) ≤ (k : Int) := by omega
  have hk2 : (k : Int) ≤ (L : Int) := by omega
  have hk3 : (k : Int) ≤ (c : Int) := by omega
  have hk4 : (k : Int) < (c : Int) := by omega
  go_enter Tryd.func107, Tryd.ntmps107
  go_wp2
  go_big_region
  all_goals
    go_wp2
    go_ret2
    exact ⟨rfl, rfl⟩

theorem parted_end (g L : Nat) (w : World) (hc : L ≤ 9223372036854775807) :
    Calls Tryd.prog 107 #[.slice (some ⟨g, 0, none⟩) L L, .int .i64 (L : Int)] w fun e w' =>
      e = .returned (.tuple #[.slice (some ⟨g, 0, none⟩) L L, .slice (some ⟨g, 0, none⟩) 0 0]) ∧ w' = w.drew := by
  have hk1 : (0 : Int) ≤ (L : Int) := by omega
  go_enter Tryd.func107, Tryd.ntmps107
  go_wp2
  go_big_region
  all_goals
    go_wp2
    go_ret2
    exact ⟨by simp, rfl⟩

end Go.Proofs.YtcjpepdagnifiaaDoor
