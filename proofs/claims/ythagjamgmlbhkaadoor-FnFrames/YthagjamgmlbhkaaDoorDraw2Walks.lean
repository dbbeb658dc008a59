/- What l1Below, l1Once and l1PickInt do. -/
import Derived.Test.YthagjamgmlbhkaaDoorDrawWalks
namespace Go.Proofs.YthagjamgmlbhkaaDoor
open Go.RowKit
set_option linter.unusedVariables false

/-- All that a draw needs of the world: the code where it was, the cursor at g in the state s. -/
structure Dr (B : Nat) (a : Option Addr) (cap : Nat) (L : List UInt8) (g : Nat) (s : Nat × Int) (w : World) : Prop where
  small : L.length ≤ 1048576
  used : s.1 ≤ L.length
  code : CodeAt B w a L
  cur : CurAt w g a L.length cap s.1 s.2
  above : B ≤ g

theorem Dr.on {B : Nat} {a : Option Addr} {cap : Nat} {L : List UInt8} {g : Nat} {s s' : Nat × Int} {w w' : World} (d : Dr B a cap L g s w) (hu : s'.1 ≤ L.length) (hc : CurAt w' g a L.length cap s'.1 s'.2) (hg : w.grownBy w' (some g)) : Dr B a cap L g s' w' :=
  ⟨d.small, hu, code_grown d.code hg d.above, hc, d.above⟩

variable {B : Nat} {a : Option Addr} {cap : Nat} {L : List UInt8} {g : Nat} {s : Nat × Int} {w : World}

theorem byte_calls (d : Dr B a cap L g s w) :
    Calls Tryd.prog 62 #[.pointer (some ⟨g, 0, none⟩)] w fun e w' => e = .returned (.int .i64 (nb L s)) ∧ Dr B a cap L g (nbS L s) w' ∧ w.grownBy w' (some g) := by
  refine (l1Byte_calls B a cap L s.1 g s.2 w d.small d.used d.code d.cur d.above).mono ?_
  rintro e w' ⟨rfl, hc, hg⟩
  exact ⟨rfl, d.on (nbS_le _ _ d.used) hc hg, hg⟩

theorem below_calls (n : Nat) (hn : 1 ≤ n) (hn2 : n ≤ 1000000000) (d : Dr B a cap L g s w) :
    Calls Tryd.prog 52 #[.pointer (some ⟨g, 0, none⟩), .int .i64 (n : Int)] w fun e w' => e = .returned (.int .i64 (bl L s n)) ∧ Dr B a cap L g (blS L s n) w' ∧ w.grownBy w' (some g) := by
  have D : Hid (Dr B a cap L g s w) := d
  clear d
  have b0 := nb_bd L s
  by_cases h6 : n ≤ 256
  · go_enter Tryd.func52, Tryd.ntmps52
    go_wp2_with fail
    refine (byte_calls D.out).mono ?_
    rintro e w1 ⟨rfl, D1, G1⟩
    go_wp2
    go_ret
    refine ⟨ret_int1 ?_, ?_, G1⟩
    · unfold bl; rw [if_pos h6]
    · have e : blS L s n = nbS L s := by unfold blS; rw [if_pos h6]
      rw [e]; exact D1
  · have b1 := nb_bd L (nbS L s)
    have b2 := nb_bd L (nbS L (nbS L s))
    have b3 := nb_bd L (nbS L (nbS L (nbS L s)))
    go_enter Tryd.func52, Tryd.ntmps52
    go_wp2_with fail
    refine (byte_calls D.out).mono ?_
    rintro e w1 ⟨rfl, D1, G1⟩
    go_wp2_with fail
    refine (byte_calls D1).mono ?_
    rintro e w2 ⟨rfl, D2, G2⟩
    go_wp2_with fail
    refine (byte_calls D2).mono ?_
    rintro e w3 ⟨rfl, D3, G3⟩
    go_wp2_with fail
    refine (byte_calls D3).mono ?_
    rintro e w4 ⟨rfl, D4, G4⟩
    go_wp2
    go_ret
    refine ⟨ret_int1 ?_, ?_, grown_trans (grown_trans (grown_trans G1 G2) G3) G4⟩
    · unfold bl; rw [if_neg h6]
    · have e : blS L s n = nbS L (nbS L (nbS L (nbS L s))) := by unfold blS; rw [if_neg h6]
      rw [e]; exact D4

theorem once_calls (n : Nat) (hn : 1 ≤ n) (hn2 : n ≤ 1000000000) (d : Dr B a cap L g s w) :
    Calls Tryd.prog 32 #[.pointer (some ⟨g, 0, none⟩), .int .i64 (n : Int)] w fun e w' => e = .returned (.bool (bl L s n == 0)) ∧ Dr B a cap L g (blS L s n) w' ∧ w.grownBy w' (some g) := by
  have D : Hid (Dr B a cap L g s w) := d
  clear d
  go_enter Tryd.func32, Tryd.ntmps32
  go_wp2_with fail
  refine (below_calls n hn hn2 D.out).mono ?_
  rintro e w1 ⟨rfl, D1, G1⟩
  go_wp2
  go_ret
  exact ⟨rfl, D1, G1⟩

end Go.Proofs.YthagjamgmlbhkaaDoor
