/- What the law on wires draws: l3Num, DrawShowInt, DrawShowText, DrawReadInt. The code is a slice of bytes that came in, of at most 2^20. -/
import Derived.Test.YtmpbmagbbnlhaaaDraw6Walks
import Derived.Test.YtmpbmagbbnlhaaaLaw2Walks
import Derived.Test.YtmpbmagbbnlhaaaWire2Walks
namespace Go.Proofs.Ytmpbmagbbnlhaaa
open Go.RowKit
set_option linter.unusedVariables false

/-- The numbers that l3Num picks from; the last is drawn. -/
def l3s (x : Int) : List Int := [0, 1, -1, 63, 64, -64, -65, 100000000000000, -100000000000000, 100000000000001, -100000000000001, 9223372036854775807, x]
def l3 (L : List UInt8) (s : Nat × Int) : Int := pickZ (l3s (bl L s 999 - 500)) (bl L (blS L s 999) 13)
def l3S (L : List UInt8) (s : Nat × Int) : Nat × Int := blS L (blS L s 999) 13

theorem l3s_row (w : World) (x : Int) (k : Nat) (hk : k < 13) : (w.alloc (.cells ((l3s x).map (Value.int .i64)).toArray 3)).cell? ⟨w.heap.size, k, none⟩ = some (.int .i64 ((l3s x).getD k 0)) := by
  rw [World.cell?_alloc_mark, List.getElem?_toArray, List.getElem?_map]
  have h : k < (l3s x).length := hk
  rw [List.getD_eq_getElem?_getD, List.getElem?_eq_getElem h]
  rfl

variable {B : Nat} {a : Option Addr} {cap : Nat} {L : List UInt8} {g : Nat} {s : Nat × Int} {w : World}

set_option maxRecDepth 100000 in
theorem l3_calls (d : Dr B a cap L g s w) :
    Calls Try.prog 25 #[.pointer (some ⟨g, 0, none⟩)] w fun e w' => e = .returned (.int .i64 (l3 L s)) ∧ Dr B a cap L g (l3S L s) w' ∧ w.grownBy w' (some g) := by
  have D : Hid (Dr B a cap L g s w) := d
  clear d
  have hb := bl_bd L s 999 (by omega)
  go_enter Try.func25, Try.ntmps25
  go_wp2_with fail
  refine (below_calls 999 (by omega) (by omega) D.out).mono ?_
  rintro e w1 ⟨rfl, D1, G1⟩
  go_wp2_with fail
  refine (pick_calls w1.heap.size 13 (l3s (bl L s 999 - 500)) (fun k hk => l3s_row w1 _ k hk) (dr_ne D1) (by omega) (by omega) (dr_alloc _ D1)).mono ?_
  rintro e w2 ⟨rfl, D2, G2⟩
  go_wp2
  go_ret
  exact ⟨rfl, D2, grown_trans (grown_alloc _ G1) G2⟩

theorem l3_bd (L : List UInt8) (s : Nat × Int) : -9223372036854775808 ≤ l3 L s ∧ l3 L s ≤ 9223372036854775807 := by
  have hb := bl_bd L s 999 (by omega)
  have hc := bl_bd L (blS L s 999) 13 (by omega)
  unfold l3 pickZ
  obtain ⟨k, hk⟩ : ∃ k, (bl L (blS L s 999) 13).toNat = k := ⟨_, rfl⟩
  rw [hk]
  have hk13 : k < 13 := by omega
  clear hc hk
  have hx0 : -500 ≤ bl L s 999 - 500 ∧ bl L s 999 - 500 ≤ 499 := by omega
  generalize bl L s 999 - 500 = x at *
  have hx : ∀ y ∈ l3s x, -9223372036854775808 ≤ y ∧ y ≤ 9223372036854775807 := by
    intro y hy
    simp only [l3s, List.mem_cons, List.not_mem_nil, or_false] at hy
    omega
  rw [List.getD_eq_getElem?_getD, List.getElem?_eq_getElem (show k < (l3s x).length from hk13)]
  exact hx _ (List.getElem_mem _)

theorem drawShowInt_calls (hL : L.length ≤ 1048576) (hc : CodeAt B w a L) (hB : B ≤ w.heap.size) :
    Calls Try.prog 10 #[.slice a L.length cap] w fun e w' => e = .returned (.int .i64 (l3 L (s0 L))) ∧ Below w.heap.size w w' := by
  have HC : Hid (CodeAt B w a L) := hc
  clear hc
  go_enter Try.func10, Try.ntmps10
  go_wp2_with fail
  refine (l1New_calls B a cap L w hL HC.out).mono ?_
  rintro e w1 ⟨rfl, hw1⟩
  have D1 : Dr B a cap L w.heap.size (s0 L) w1 := by rw [hw1]; exact dr_new hL HC.out hB
  have HW : Hid (w1 = _) := hw1
  clear hw1
  go_wp2_with fail
  refine (l3_calls D1).mono ?_
  rintro e w2 ⟨rfl, D2, G2⟩
  go_wp2
  go_ret
  exact ⟨rfl, below_new _ (HW.out ▸ G2)⟩

/-- What DrawReadInt draws. -/
def dri0 (L : List UInt8) : List UInt8 := showZ (l3 L (s0 L)) ++ text L (l3S L (s0 L)) 3
def driS (L : List UInt8) : Nat × Int := textS L (l3S L (s0 L)) 3
def dri (L : List UInt8) : List UInt8 := if bl L (driS L) 4 = 0 then spoil L (blS L (driS L) 4) (dri0 L) else dri0 L
theorem dri0_length (L : List UInt8) : (dri0 L).length ≤ 10 := by
  unfold dri0; rw [List.length_append]
  have h1 := showZ_length (l3 L (s0 L))
  have h2 := text_length L (l3S L (s0 L)) 3
  omega
theorem dri_length (L : List UInt8) : (dri L).length ≤ 1003 := by
  unfold dri; split
  · exact spoil_length _ _ _ (by have := dri0_length L; omega)
  · have := dri0_length L; omega

set_option maxRecDepth 100000 in
theorem drawReadInt_calls (hL : L.length ≤ 1048576) (hc : CodeAt B w a L) (hB : B ≤ w.heap.size) :
    Calls Try.prog 18 #[.slice a L.length cap] w fun e w' => e = .returned (.string (txt (dri L))) ∧ Below w.heap.size w w' := by
  have HC : Hid (CodeAt B w a L) := hc
  clear hc
  have z1 : (txt (showZ (l3 L (s0 L)))).size ≤ 7 := showZ_length _
  have z2 : (txt (text L (l3S L (s0 L)) 3)).size ≤ 3 := text_length _ _ _
  have HA : Hid (_ = _) := txt_append (showZ (l3 L (s0 L))) (text L (l3S L (s0 L)) 3)
  go_enter Try.func18, Try.ntmps18
  go_wp2_with fail
  refine (l1New_calls B a cap L w hL HC.out).mono ?_
  rintro e w1 ⟨rfl, hw1⟩
  have D1 : Dr B a cap L w.heap.size (s0 L) w1 := by rw [hw1]; exact dr_new hL HC.out hB
  have HW : Hid (w1 = _) := hw1
  clear hw1
  go_wp2_with fail
  refine (l3_calls D1).mono ?_
  rintro e w2 ⟨rfl, D2, G2⟩
  go_wp2_with fail
  refine (sShowInt_calls (l3 L (s0 L)) _).mono ?_
  rintro e w3 ⟨rfl, hb3⟩
  have D3 := dr_below D2 (dr_lt D2) hb3
  have B3 : Below w.heap.size w w3 := (below_new _ (HW.out ▸ G2)).trans (hb3.mono (Nat.le_of_lt (dr_lt D2)))
  clear hb3 G2 D1 D2 HW
  go_wp2_with fail
  refine (text_calls 3 (by omega) D3).mono ?_
  rintro e w4 ⟨rfl, D4, G4⟩
  have B4 : Below w.heap.size w w4 := B3.grown G4 B3.size (fun k hk => by have : w.heap.size = k := by simpa using hk
                                                                          omega)
  clear G4 D3 B3
  go_wp2_with fail
  rw [HA.out]
  refine (once_calls 4 (by omega) (by omega) D4).mono ?_
  rintro e w5 ⟨rfl, D5, G5⟩
  have B5 : Below w.heap.size w w5 := B4.grown G5 B4.size (fun k hk => by have : w.heap.size = k := by simpa using hk
                                                                          omega)
  clear G5 D4 B4
  by_cases h : bl L (driS L) 4 = 0
  · have q : (bl L (textS L (l3S L (s0 L)) 3) 4 == 0) = true := by rw [beq_iff_eq]; exact h
    have HV : Hid (dri L = spoil L (blS L (driS L) 4) (dri0 L)) := by show _ = _; unfold dri; rw [if_pos h]
    clear h
    go_wp2_with fail
    refine (spoil_calls (dri0 L) (by have := dri0_length L; omega) D5).mono ?_
    rintro e w6 ⟨rfl, D6, G6⟩
    have B6 : Below w.heap.size w w6 := B5.grown G6 B5.size (fun k hk => by have : w.heap.size = k := by simpa using hk
                                                                            omega)
    go_wp2
    go_ret
    exact ⟨ret_str (by rw [HV.out]; rfl), B6⟩
  · have q : (bl L (textS L (l3S L (s0 L)) 3) 4 == 0) = false := by rw [beq_eq_false_iff_ne]; exact h
    have HV : Hid (dri L = dri0 L) := by show _ = _; unfold dri; rw [if_neg h]
    clear h
    go_wp2
    go_ret
    exact ⟨ret_str (by rw [HV.out]; rfl), B5⟩

end Go.Proofs.Ytmpbmagbbnlhaaa
