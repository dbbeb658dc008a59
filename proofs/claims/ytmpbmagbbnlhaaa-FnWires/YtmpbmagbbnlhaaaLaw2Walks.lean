/- What several laws call: at, DrawShowText. -/
import Derived.Test.YtmpbmagbbnlhaaaLawWalks
import Derived.Test.YtmpbmagbbnlhaaaDraw4Walks
namespace Go.Proofs.Ytmpbmagbbnlhaaa
open Go.RowKit
set_option linter.unusedVariables false

/-- Byte j of the code, and behind its end a number of its own. -/
def atZ (L : List UInt8) (j : Nat) : Int := if j < L.length then cb L j else ((j : Int) * 37 + (L.length : Int) * 11) % 256
theorem atZ_bd (L : List UInt8) (j : Nat) : 0 ≤ atZ L j ∧ atZ L j ≤ 255 := by
  unfold atZ; split
  · exact cb_bd _ _
  · omega

variable {B : Nat} {a : Option Addr} {cap : Nat} {L : List UInt8} {w : World}

theorem drawShowText_calls (hL : L.length ≤ 1048576) (hc : CodeAt B w a L) (hB : B ≤ w.heap.size) :
    Calls Try.prog 15 #[.slice a L.length cap] w fun e w' => e = .returned (.string (txt (text L (s0 L) 12))) ∧ Below w.heap.size w w' := by
  have HC : Hid (CodeAt B w a L) := hc
  clear hc
  go_enter Try.func15, Try.ntmps15
  go_wp2_with fail
  refine (l1New_calls B a cap L w hL HC.out).mono ?_
  rintro e w1 ⟨rfl, hw1⟩
  have D1 : Dr B a cap L w.heap.size (s0 L) w1 := by rw [hw1]; exact dr_new hL HC.out hB
  have HW : Hid (w1 = _) := hw1
  clear hw1
  go_wp2_with fail
  refine (text_calls 12 (by omega) D1).mono ?_
  rintro e w2 ⟨rfl, D2, G2⟩
  go_wp2
  go_ret
  exact ⟨rfl, below_new _ (HW.out ▸ G2)⟩

end Go.Proofs.Ytmpbmagbbnlhaaa
