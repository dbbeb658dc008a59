/- What several laws call: at, DrawShowText. -/
import Derived.Test.YthagjamgmlbhkaaDoorLawWalks
import Derived.Test.YthagjamgmlbhkaaDoorDraw4Walks
namespace Go.Proofs.YthagjamgmlbhkaaDoor
open Go.RowKit
set_option linter.unusedVariables false

/-- Byte j of the code, and behind its end a number of its own. -/
def atZ (L : List UInt8) (j : Nat) : Int := if j < L.length then cb L j else ((j : Int) * 37 + (L.length : Int) * 11) % 256
theorem atZ_bd (L : List UInt8) (j : Nat) : 0 ≤ atZ L j ∧ atZ L j ≤ 255 := by
  unfold atZ; split
  · exact cb_bd _ _
  · omega

theorem at_calls (B : Nat) (a : Option Addr) (cap : Nat) (L : List UInt8) (j : Nat) (w : World) (hL : L.length ≤ 1048576) (hj : j ≤ 1048576) (hc : CodeAt B w a L) :
    Calls Tryd.prog 13 #[.slice a L.length cap, .int .i64 (j : Int)] w fun e w' => e = .returned (.int .i64 (atZ L j)) ∧ w' = w := by
  have HC : Hid (CodeAt B w a L) := hc
  clear hc
  by_cases hlt : j < L.length
  · obtain ⟨b, off, rfl, hb, hcell⟩ := HC.out j hlt
    have hq := cb_bd L j
    have HE : Hid (atZ L j = cb L j) := by show _ = _; unfold atZ; rw [if_pos hlt]
    go_enter Tryd.func13, Tryd.ntmps13
    go_wp2
    go_ret
    exact ⟨ret_int1 HE.out.symm, rfl⟩
  · have HE : Hid (atZ L j = ((j : Int) * 37 + (L.length : Int) * 11) % 256) := by show _ = _; unfold atZ; rw [if_neg hlt]
    go_enter Tryd.func13, Tryd.ntmps13
    go_wp2
    go_ret
    exact ⟨ret_int1 HE.out.symm, rfl⟩

variable {B : Nat} {a : Option Addr} {cap : Nat} {L : List UInt8} {w : World}

end Go.Proofs.YthagjamgmlbhkaaDoor
