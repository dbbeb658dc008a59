/- Var and ReadVar as total functions of their arguments. -/
import Derived.Test.YtcjpepdagnifiaaDoorVzMath
import Derived.Test.YtcjpepdagnifiaaDoorSVarWalks
import Derived.Test.YtcjpepdagnifiaaDoorIVarWalks
import Derived.Test.YtcjpepdagnifiaaDoorIRvWalks
namespace Go.Proofs.YtcjpepdagnifiaaDoor
open Go.RowKit
set_option linter.unusedVariables false

theorem sVar_calls (n : Int) (w : World) :
    Calls Tryd.prog 49 #[.int .i64 n] w fun e w' => e = .returned (.string (txt (varZ n))) ∧ Below w.heap.size w w' := by
  by_cases h : 0 ≤ n ∧ n ≤ 562949953421311
  · obtain ⟨m, rfl⟩ := Int.eq_ofNat_of_zero_le h.1
    have e : varZ (m : Int) = varB 6 m := by unfold varZ; rw [if_pos h]; rfl
    rw [e]
    exact sVar_yes m w (by omega)
  · have e : varZ n = [] := by unfold varZ; rw [if_neg h]
    rw [e]
    refine (sVar_no n w (by omega)).mono ?_
    rintro e w1 ⟨rfl, rfl⟩
    exact ⟨rfl, Below.refl _ _⟩

theorem iVar_calls (n : Int) (w : World) :
    Calls Tryd.prog 89 #[.int .i64 n] w fun e w' => e = .returned (.string (txt (varZ n))) ∧ Below w.heap.size w w' := by
  by_cases h : 0 ≤ n ∧ n ≤ 562949953421311
  · rw [varZ_in n h]
    obtain ⟨m, rfl⟩ := Int.eq_ofNat_of_zero_le h.1
    exact iVar_yes m w (by omega)
  · rw [varZ_out n h]
    refine (iVar_no n w (by omega)).mono ?_
    rintro e w1 ⟨rfl, rfl⟩
    exact ⟨rfl, Below.refl _ _⟩

theorem iReadVar_txt (l : List UInt8) (w : World) (h : l.length ≤ 1048576) :
    Calls Tryd.prog 97 #[.string (txt l)] w fun e w' => e = .returned (.tuple #[.int .i64 ((rdv l).1 : Int), .int .i64 ((rdv l).2 : Int)]) ∧ w' = w :=
  iReadVar_calls (txt l) w h

end Go.Proofs.YtcjpepdagnifiaaDoor
