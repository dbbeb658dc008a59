/- What DrawVar, DrawHex and DrawReadVar answer. The code is a slice of bytes that came in, of at most 2^20. -/
import Derived.Test.YtdkdjelbgegmeabDoorDraw6Walks
import Derived.Test.YtdkdjelbgegmeabDoorSVarWalks
namespace Go.Proofs.YtdkdjelbgegmeabDoor
open Go.RowKit
set_option linter.unusedVariables false

/-- A new cursor's state. -/
def s0 (L : List UInt8) : Nat × Int := (0, hF L (min L.length 4000))
/-- The bytes of Var, none where the number is out of range. -/
def varZ (n : Int) : List UInt8 := if 0 ≤ n ∧ n ≤ 562949953421311 then varB 6 n.toNat else []
theorem varZ_length (n : Int) : (varZ n).length ≤ 7 := by
  unfold varZ; split
  · exact varB_length 6 _
  · simp
/-- What DrawReadVar draws. -/
def drv0 (L : List UInt8) : List UInt8 := varZ (num L (s0 L)) ++ text L (numS L (s0 L)) 4
def drvS (L : List UInt8) : Nat × Int := textS L (numS L (s0 L)) 4
def drv (L : List UInt8) : List UInt8 := if bl L (drvS L) 4 = 0 then spoil L (blS L (drvS L) 4) (drv0 L) else drv0 L
theorem drv0_length (L : List UInt8) : (drv0 L).length ≤ 11 := by
  unfold drv0; rw [List.length_append]
  have h1 := varZ_length (num L (s0 L))
  have h2 := text_length L (numS L (s0 L)) 4
  omega
theorem drv_length (L : List UInt8) : (drv L).length ≤ 1003 := by
  unfold drv; split
  · exact spoil_length _ _ _ (by have := drv0_length L; omega)
  · have := drv0_length L; omega

theorem sVar_calls (n : Int) (w : World) :
    Calls Tryd.prog 23 #[.int .i64 n] w fun e w' => e = .returned (.string (txt (varZ n))) ∧ Below w.heap.size w w' := by
  by_cases h : 0 ≤ n ∧ n ≤ 562949953421311
  · obtain ⟨m, rfl⟩ := Int.eq_ofNat_of_zero_le h.1
    have e : varZ (m : Int) = varB 6 m := by unfold varZ; rw [if_pos h]; rfl
    rw [e]
    exact sVar_yes m w (by omega)
  · have e : varZ n = [] := by unfold varZ; rw [if_neg h]
    rw [e]
    refine (sVar_no n w (by omega)).mono ?_
    rintro e w1 ⟨rfl, rfl⟩
    exact ⟨rfl, Below.refl _ _⟩

variable {B : Nat} {a : Option Addr} {cap : Nat} {L : List UInt8} {w : World}

theorem dr_new (hL : L.length ≤ 1048576) (hc : CodeAt B w a L) (hB : B ≤ w.heap.size) :
    Dr B a cap L w.heap.size (s0 L) (w.alloc (.cells #[.slice a L.length cap, .int .i64 0, .int .i64 (hF L (min L.length 4000))] 47)) := by
  refine ⟨hL, Nat.zero_le _, ?_, ?_, hB⟩
  · intro i hi
    obtain ⟨b, off, ha, hb, hcell⟩ := hc i hi
    exact ⟨b, off, ha, hb, ((Below.refl w.heap.size w).alloc (Nat.le_refl _) _ |>.cell (p := ⟨b, off + i, none⟩) (show b < w.heap.size by omega)).trans hcell⟩
  · show (w.heap.push _)[w.heap.size]? = _
    simp [s0]

theorem below_new {w2 : World} (o : Obj) (hg : (w.alloc o).grownBy w2 (some w.heap.size)) : Below w.heap.size w w2 := by
  refine ((Below.refl w.heap.size w).alloc (Nat.le_refl _) o).grown hg ?_ ?_
  · simp
  · intro k hk; have : w.heap.size = k := by simpa using hk
    omega

theorem drawVar_calls (hL : L.length ≤ 1048576) (hc : CodeAt B w a L) (hB : B ≤ w.heap.size) :
    Calls Tryd.prog 5 #[.slice a L.length cap] w fun e w' => e = .returned (.int .i64 (num L (s0 L))) ∧ Below w.heap.size w w' := by
  have HC : Hid (CodeAt B w a L) := hc
  clear hc
  go_enter Tryd.func5, Tryd.ntmps5
  go_wp2_with fail
  refine (l1New_calls B a cap L w hL HC.out).mono ?_
  rintro e w1 ⟨rfl, hw1⟩
  have D1 : Dr B a cap L w.heap.size (s0 L) w1 := by rw [hw1]; exact dr_new hL HC.out hB
  have HW : Hid (w1 = _) := hw1
  clear hw1
  go_wp2_with fail
  refine (num_calls D1).mono ?_
  rintro e w2 ⟨rfl, D2, G2⟩
  go_wp2
  go_ret
  exact ⟨rfl, below_new _ (HW.out ▸ G2)⟩

theorem drawHex_calls (hL : L.length ≤ 1048576) (hc : CodeAt B w a L) (hB : B ≤ w.heap.size) :
    Calls Tryd.prog 6 #[.slice a L.length cap] w fun e w' => e = .returned (.string (txt (text L (s0 L) 40))) ∧ Below w.heap.size w w' := by
  have HC : Hid (CodeAt B w a L) := hc
  clear hc
  go_enter Tryd.func6, Tryd.ntmps6
  go_wp2_with fail
  refine (l1New_calls B a cap L w hL HC.out).mono ?_
  rintro e w1 ⟨rfl, hw1⟩
  have D1 : Dr B a cap L w.heap.size (s0 L) w1 := by rw [hw1]; exact dr_new hL HC.out hB
  have HW : Hid (w1 = _) := hw1
  clear hw1
  go_wp2_with fail
  refine (text_calls 40 (by omega) D1).mono ?_
  rintro e w2 ⟨rfl, D2, G2⟩
  go_wp2
  go_ret
  exact ⟨rfl, below_new _ (HW.out ▸ G2)⟩

set_option maxRecDepth 100000 in
theorem drawReadVar_calls (hL : L.length ≤ 1048576) (hc : CodeAt B w a L) (hB : B ≤ w.heap.size) :
    Calls Tryd.prog 15 #[.slice a L.length cap] w fun e w' => e = .returned (.string (txt (drv L))) ∧ Below w.heap.size w w' := by
  have HC : Hid (CodeAt B w a L) := hc
  clear hc
  have z1 : (txt (varZ (num L (s0 L)))).size ≤ 7 := varZ_length _
  have z2 : (txt (text L (numS L (s0 L)) 4)).size ≤ 4 := text_length _ _ _
  have HA : Hid (_ = _) := txt_append (varZ (num L (s0 L))) (text L (numS L (s0 L)) 4)
  go_enter Tryd.func15, Tryd.ntmps15
  go_wp2_with fail
  refine (l1New_calls B a cap L w hL HC.out).mono ?_
  rintro e w1 ⟨rfl, hw1⟩
  have D1 : Dr B a cap L w.heap.size (s0 L) w1 := by rw [hw1]; exact dr_new hL HC.out hB
  have HW : Hid (w1 = _) := hw1
  clear hw1
  go_wp2_with fail
  refine (num_calls D1).mono ?_
  rintro e w2 ⟨rfl, D2, G2⟩
  go_wp2_with fail
  refine (sVar_calls (num L (s0 L)) _).mono ?_
  rintro e w3 ⟨rfl, hb3⟩
  have D3 := dr_below D2 (dr_lt D2) hb3
  have B3 : Below w.heap.size w w3 := (below_new _ (HW.out ▸ G2)).trans (hb3.mono (Nat.le_of_lt (dr_lt D2)))
  clear hb3 G2 D1 D2 HW
  go_wp2_with fail
  refine (text_calls 4 (by omega) D3).mono ?_
  rintro e w4 ⟨rfl, D4, G4⟩
  have B4 : Below w.heap.size w w4 := B3.grown G4 B3.size (fun k hk => by have : w.heap.size = k := by simpa using hk
                                                                          omega)
  clear G4 D3 B3
  go_wp2_with fail
  rw [HA.out]
  refine (once_calls 4 (by omega) (by omega) D4).mono ?_
  rintro e w5 ⟨rfl, D5, G5⟩
  have B5 : Below w.heap.size w w5 := B4.grown G5 B4.size (fun k hk => by have : w.heap.size = k := by simpa using hk
                                                                          omega)
  clear G5 D4 B4
  by_cases h : bl L (drvS L) 4 = 0
  · have q : (bl L (textS L (numS L (s0 L)) 4) 4 == 0) = true := by rw [beq_iff_eq]; exact h
    have HV : Hid (drv L = spoil L (blS L (drvS L) 4) (drv0 L)) := by show _ = _; unfold drv; rw [if_pos h]
    clear h
    go_wp2_with fail
    refine (spoil_calls (drv0 L) (by have := drv0_length L; omega) D5).mono ?_
    rintro e w6 ⟨rfl, D6, G6⟩
    have B6 : Below w.heap.size w w6 := B5.grown G6 B5.size (fun k hk => by have : w.heap.size = k := by simpa using hk
                                                                            omega)
    go_wp2
    go_ret
    exact ⟨ret_str (by rw [HV.out]; rfl), B6⟩
  · have q : (bl L (textS L (numS L (s0 L)) 4) 4 == 0) = false := by rw [beq_eq_false_iff_ne]; exact h
    have HV : Hid (drv L = drv0 L) := by show _ = _; unfold drv; rw [if_neg h]
    clear h
    go_wp2
    go_ret
    exact ⟨ret_str (by rw [HV.out]; rfl), B5⟩

end Go.Proofs.YtdkdjelbgegmeabDoor
