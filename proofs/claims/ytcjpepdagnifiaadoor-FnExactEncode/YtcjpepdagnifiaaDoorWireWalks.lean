/- What Zig, Zag and ShowInt answer, the specification's and the program's. For every number. -/
import Derived.Test.YtcjpepdagnifiaaDoorWireMath
import Derived.Test.YtcjpepdagnifiaaDoorVzWalks
namespace Go.Proofs.YtcjpepdagnifiaaDoor
open Go.RowKit
set_option linter.unusedVariables false

theorem sZig_calls (n : Int) (w : World) :
    Calls Tryd.prog 76 #[.int .i64 n] w fun e w' => e = .returned (.int .i64 (zigZ n)) ∧ w' = w := by
  by_cases h : n < -100000000000000 ∨ 100000000000000 < n
  · rw [zig_out n h]
    go_enter Tryd.func76, Tryd.ntmps76
    go_wp2_with (go_at_call 74; refine (l1In_no _ _ _ _ h).mono ?_; rintro e w' ⟨rfl, rfl⟩)
    go_ret
    exact ⟨rfl, rfl⟩
  · have h1 : -100000000000000 ≤ n := by omega
    have h2 : n ≤ 100000000000000 := by omega
    by_cases h0 : n < 0
    · rw [zig_neg n h1 h0]
      go_enter Tryd.func76, Tryd.ntmps76
      go_wp2_with (go_at_call 74; refine (l1In_yes _ _ _ _ h1 h2).mono ?_; rintro e w' ⟨rfl, rfl⟩)
      go_ret
      exact ⟨rfl, rfl⟩
    · have h3 : 0 ≤ n := by omega
      rw [zig_pos n h2 h3]
      go_enter Tryd.func76, Tryd.ntmps76
      go_wp2_with (go_at_call 74; refine (l1In_yes _ _ _ _ h1 h2).mono ?_; rintro e w' ⟨rfl, rfl⟩)
      go_ret
      exact ⟨rfl, rfl⟩

theorem iZig_calls (n : Int) (w : World) :
    Calls Tryd.prog 106 #[.int .i64 n] w fun e w' => e = .returned (.int .i64 (zigZ n)) ∧ w' = w := by
  by_cases h : n < -100000000000000
  · rw [zig_out n (.inl h)]
    go_enter Tryd.func106, Tryd.ntmps106
    go_wp2
    go_ret
    exact ⟨rfl, rfl⟩
  · by_cases h2 : 100000000000000 < n
    · rw [zig_out n (.inr h2)]
      go_enter Tryd.func106, Tryd.ntmps106
      go_wp2
      go_ret
      exact ⟨rfl, rfl⟩
    · have h1 : -100000000000000 ≤ n := by omega
      have h4 : n ≤ 100000000000000 := by omega
      by_cases h0 : n < 0
      · rw [zig_neg n h1 h0]
        go_enter Tryd.func106, Tryd.ntmps106
        go_wp2
        go_ret
        exact ⟨rfl, rfl⟩
      · have h3 : 0 ≤ n := by omega
        rw [zig_pos n h4 h3]
        go_enter Tryd.func106, Tryd.ntmps106
        go_wp2
        go_ret
        exact ⟨rfl, rfl⟩

theorem sZag_calls (n : Int) (w : World) (h : -9223372036854775808 ≤ n ∧ n ≤ 9223372036854775807) :
    Calls Tryd.prog 73 #[.int .i64 n] w fun e w' => e = .returned (.int .i64 (zagZ n)) ∧ w' = w := by
  obtain ⟨t1, t2, t3, t4⟩ := tdiv_two n
  by_cases h0 : n.tmod 2 = 0
  · rw [zag_even n h0]
    go_enter Tryd.func73, Tryd.ntmps73
    go_wp2
    go_ret
    exact ⟨rfl, rfl⟩
  · rw [zag_odd n h0]
    go_enter Tryd.func73, Tryd.ntmps73
    go_wp2
    go_ret
    exact ⟨rfl, rfl⟩

theorem iZag_calls (n : Int) (w : World) (h : -9223372036854775808 ≤ n ∧ n ≤ 9223372036854775807) :
    Calls Tryd.prog 105 #[.int .i64 n] w fun e w' => e = .returned (.int .i64 (zagZ n)) ∧ w' = w := by
  obtain ⟨t1, t2, t3, t4⟩ := tdiv_two n
  by_cases h0 : n.tmod 2 = 0
  · rw [zag_even n h0]
    go_enter Tryd.func105, Tryd.ntmps105
    go_wp2
    go_ret
    exact ⟨rfl, rfl⟩
  · rw [zag_odd n h0]
    go_enter Tryd.func105, Tryd.ntmps105
    go_wp2
    go_ret
    exact ⟨rfl, rfl⟩

end Go.Proofs.YtcjpepdagnifiaaDoor
