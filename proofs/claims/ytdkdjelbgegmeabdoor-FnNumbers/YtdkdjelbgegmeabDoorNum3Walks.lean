/- The law on numbers, walked: one theorem for each kind of the drawn number. -/
import Derived.Test.YtdkdjelbgegmeabDoorNum2Walks
namespace Go.Proofs.YtdkdjelbgegmeabDoor
open Go.RowKit
set_option linter.unusedVariables false

set_option maxRecDepth 100000 in
set_option maxHeartbeats 1000000 in
theorem numbers_negNear (a : Option Addr) (cap : Nat) (L : List UInt8) (n : Int) (hA : -1000000000 < n) (hB : n < 0) (w : World) (hL : L.length ≤ 1048576) (hnum : num L (s0 L) = n) (hc : CodeAt w.heap.size w a L) (htab : Lib.TabIs Tryd.prog w "internal/strconv.uint64pow10" .u64 Lib.pow10Tab) :
    Calls Tryd.prog 3 #[.slice a L.length cap] w fun e w' => e = .returned (.bool true) ∧ Below w.heap.size w w' := by
  have HC : Hid (CodeAt w.heap.size w a L) := hc
  have HT : Hid (Lib.TabIs Tryd.prog w "internal/strconv.uint64pow10" .u64 Lib.pow10Tab) := htab
  clear hc htab
  have hbig : decide (1048576 < L.length) = false := by simp; omega
  have HGT : Hid (Tryd.prog.globalNamed "internal/strconv.uint64pow10" = some 0) := by show _ = _; kernel_rfl
  obtain ⟨T, hT⟩ : ∃ T, text L (s0 L) 40 = T := ⟨_, rfl⟩
  obtain ⟨R, hR⟩ : ∃ R, drv L = R := ⟨_, rfl⟩
  have hnb := num_bd L (s0 L)
  rw [hnum] at hnb
  have hTl := text_length L (s0 L) 40
  rw [hT] at hTl
  have hRl := drv_length L
  rw [hR] at hRl
  have CV : Hid (∀ w', Below w.heap.size w w' → _) := fun w' hb => drawVar_calls (cap := cap) (w := w') hL (code_below HC.out hb) hb.size
  have CH : Hid (∀ w', Below w.heap.size w w' → _) := fun w' hb => drawHex_calls (cap := cap) (w := w') hL (code_below HC.out hb) hb.size
  have CR : Hid (∀ w', Below w.heap.size w w' → _) := fun w' hb => drawReadVar_calls (cap := cap) (w := w') hL (code_below HC.out hb) hb.size
  rw [hnum] at CV
  rw [hT] at CH
  rw [hR] at CR
  clear hnum hT hR
  have hTs : (txt T).size ≤ 40 := hTl
  have hVs : (txt (varZ n)).size ≤ 7 := varZ_length n
  have hFs : (txt (fixZ n)).size ≤ 7 := fixZ_le n
  have f1 := f1_out n (by omega)
  have f2 := f2_out n (by omega)
  obtain ⟨g6, g7⟩ := g6_in n ⟨by omega, by omega⟩
  go_enter Tryd.func3, Tryd.ntmps3
  go_wp2_with fail
  refine (big_calls a L.length cap w (by omega)).mono ?_
  rintro e w0 ⟨rfl, rfl⟩
  rw [hbig]
  go_wp2_with fail
  refine (CV.out _ (Below.refl _ _)).mono ?_
  rintro e w1 ⟨rfl, B1⟩
  go_wp2_with fail
  refine (CH.out _ B1).mono ?_
  rintro e w2 ⟨rfl, b2⟩
  have B2 := B1.trans (b2.mono B1.size)
  clear b2
  go_wp2_with fail
  refine (iVar_calls n _).mono ?_
  rintro e w3 ⟨rfl, b3⟩
  have B3 := B2.trans (b3.mono B2.size)
  clear b3
  go_wp2_with fail
  rw [txt_append]
  refine (iReadVar_txt (varZ n ++ T) _ (by have := varZ_length n; rw [List.length_append]; omega)).mono ?_
  rintro e w4 ⟨rfl, rfl⟩
  go_wp2_with fail
  refine (iFixed7_calls n _ (by omega)).mono ?_
  rintro e w5 ⟨rfl, b5⟩
  have B5 := B3.trans (b5.mono B3.size)
  clear b5
  go_wp2_with fail
  rw [txt_append]
  refine (iReadFixed7_calls (fixZ n ++ T) _ (by have := fixZ_le n; rw [List.length_append]; omega)).mono ?_
  rintro e w6 ⟨rfl, rfl⟩
  have T6 : Hid (Lib.TabIs Tryd.prog w6 "internal/strconv.uint64pow10" .u64 Lib.pow10Tab) := Joins.tab_stays HGT.out HT.out B5 (Nat.le_refl _)
  go_wp2_with fail
  refine (iDec_calls n _ hnb.1 hnb.2 T6.out).mono ?_
  rintro e w7 ⟨rfl, b7⟩
  have B7 := B5.trans (b7.mono B5.size)
  clear b7
  have T7 : Hid (Lib.TabIs Tryd.prog w7 "internal/strconv.uint64pow10" .u64 Lib.pow10Tab) := Joins.tab_stays HGT.out HT.out B7 (Nat.le_refl _)
  go_wp2_with fail
  refine (iReadDecItoa_calls n _ hnb.1 hnb.2 T7.out).mono ?_
  rintro e w8 ⟨rfl, b8⟩
  have B8 := B7.trans (b8.mono B7.size)
  clear b8
  go_wp2_with fail
  refine (iHex_calls (txt T) _ (by rw [txt_size]; omega)).mono ?_
  rintro e w9 ⟨rfl, b9⟩
  have B9 := B8.trans (b9.mono B8.size)
  clear b9
  go_wp2_with fail
  refine (iUnhexHex_calls T _ (by omega)).mono ?_
  rintro e w10 ⟨rfl, b10⟩
  have B10 := B9.trans (b10.mono B9.size)
  clear b10
  go_wp2_with fail
  refine (CR.out _ B10).mono ?_
  rintro e w11 ⟨rfl, b11⟩
  have B11 := B10.trans (b11.mono B10.size)
  clear b11
  go_wp2_with fail
  refine (iReadVar_txt R _ (by omega)).mono ?_
  rintro e w12 ⟨rfl, rfl⟩
  have hRs : (txt R).size = R.length := rfl
  rcases rdv_sound R with hz | ⟨z1, z2, z3, z4⟩
  · have g8 : (((rdv R).2 : Int) == 0) = true := by rw [hz]; rfl
    clear hz
    go_wp2
    go_ret
    exact ⟨rfl, B11⟩
  · obtain ⟨j, hj⟩ : ∃ j, (rdv R).2 = j := ⟨_, rfl⟩
    obtain ⟨v, hv⟩ : ∃ v, (rdv R).1 = v := ⟨_, rfl⟩
    rw [hj, hv]
    rw [hj] at z1 z2 z4
    rw [hv] at z3 z4
    have HE : Hid (_ = true) := tail_eq R j (v : Int) z4
    clear z4 hj hv
    have g8 : ((j : Int) == 0) = false := by rw [beq_eq_false_iff_ne]; omega
    have hjs : j ≤ (txt R).size := z2
    go_wp2_with fail
    refine (CR.out _ B11).mono ?_
    rintro e w13 ⟨rfl, b13⟩
    have B13 := B11.trans (b13.mono B11.size)
    clear b13
    go_wp2_with fail
    refine (iVar_calls (v : Int) _).mono ?_
    rintro e w14 ⟨rfl, b14⟩
    have B14 := B13.trans (b14.mono B13.size)
    clear b14
    go_wp2_with fail
    refine (CR.out _ B14).mono ?_
    rintro e w15 ⟨rfl, b15⟩
    have B15 := B14.trans (b15.mono B14.size)
    clear b15
    have hE := HE.out
    go_wp2
    go_ret
    exact ⟨rfl, B15⟩

set_option maxRecDepth 100000 in
set_option maxHeartbeats 1000000 in
theorem numbers_negFar (a : Option Addr) (cap : Nat) (L : List UInt8) (n : Int) (hA : n ≤ -1000000000) (w : World) (hL : L.length ≤ 1048576) (hnum : num L (s0 L) = n) (hc : CodeAt w.heap.size w a L) (htab : Lib.TabIs Tryd.prog w "internal/strconv.uint64pow10" .u64 Lib.pow10Tab) :
    Calls Tryd.prog 3 #[.slice a L.length cap] w fun e w' => e = .returned (.bool true) ∧ Below w.heap.size w w' := by
  have HC : Hid (CodeAt w.heap.size w a L) := hc
  have HT : Hid (Lib.TabIs Tryd.prog w "internal/strconv.uint64pow10" .u64 Lib.pow10Tab) := htab
  clear hc htab
  have hbig : decide (1048576 < L.length) = false := by simp; omega
  have HGT : Hid (Tryd.prog.globalNamed "internal/strconv.uint64pow10" = some 0) := by show _ = _; kernel_rfl
  obtain ⟨T, hT⟩ : ∃ T, text L (s0 L) 40 = T := ⟨_, rfl⟩
  obtain ⟨R, hR⟩ : ∃ R, drv L = R := ⟨_, rfl⟩
  have hnb := num_bd L (s0 L)
  rw [hnum] at hnb
  have hTl := text_length L (s0 L) 40
  rw [hT] at hTl
  have hRl := drv_length L
  rw [hR] at hRl
  have CV : Hid (∀ w', Below w.heap.size w w' → _) := fun w' hb => drawVar_calls (cap := cap) (w := w') hL (code_below HC.out hb) hb.size
  have CH : Hid (∀ w', Below w.heap.size w w' → _) := fun w' hb => drawHex_calls (cap := cap) (w := w') hL (code_below HC.out hb) hb.size
  have CR : Hid (∀ w', Below w.heap.size w w' → _) := fun w' hb => drawReadVar_calls (cap := cap) (w := w') hL (code_below HC.out hb) hb.size
  rw [hnum] at CV
  rw [hT] at CH
  rw [hR] at CR
  clear hnum hT hR
  have hTs : (txt T).size ≤ 40 := hTl
  have hVs : (txt (varZ n)).size ≤ 7 := varZ_length n
  have hFs : (txt (fixZ n)).size ≤ 7 := fixZ_le n
  have f1 := f1_out n (by omega)
  have f2 := f2_out n (by omega)
  have g6 := g6_out n (by omega)
  go_enter Tryd.func3, Tryd.ntmps3
  go_wp2_with fail
  refine (big_calls a L.length cap w (by omega)).mono ?_
  rintro e w0 ⟨rfl, rfl⟩
  rw [hbig]
  go_wp2_with fail
  refine (CV.out _ (Below.refl _ _)).mono ?_
  rintro e w1 ⟨rfl, B1⟩
  go_wp2_with fail
  refine (CH.out _ B1).mono ?_
  rintro e w2 ⟨rfl, b2⟩
  have B2 := B1.trans (b2.mono B1.size)
  clear b2
  go_wp2_with fail
  refine (iVar_calls n _).mono ?_
  rintro e w3 ⟨rfl, b3⟩
  have B3 := B2.trans (b3.mono B2.size)
  clear b3
  go_wp2_with fail
  rw [txt_append]
  refine (iReadVar_txt (varZ n ++ T) _ (by have := varZ_length n; rw [List.length_append]; omega)).mono ?_
  rintro e w4 ⟨rfl, rfl⟩
  go_wp2_with fail
  refine (iFixed7_calls n _ (by omega)).mono ?_
  rintro e w5 ⟨rfl, b5⟩
  have B5 := B3.trans (b5.mono B3.size)
  clear b5
  go_wp2_with fail
  rw [txt_append]
  refine (iReadFixed7_calls (fixZ n ++ T) _ (by have := fixZ_le n; rw [List.length_append]; omega)).mono ?_
  rintro e w6 ⟨rfl, rfl⟩
  have T6 : Hid (Lib.TabIs Tryd.prog w6 "internal/strconv.uint64pow10" .u64 Lib.pow10Tab) := Joins.tab_stays HGT.out HT.out B5 (Nat.le_refl _)
  go_wp2_with fail
  refine (iDec_calls n _ hnb.1 hnb.2 T6.out).mono ?_
  rintro e w7 ⟨rfl, b7⟩
  have B7 := B5.trans (b7.mono B5.size)
  clear b7
  have T7 : Hid (Lib.TabIs Tryd.prog w7 "internal/strconv.uint64pow10" .u64 Lib.pow10Tab) := Joins.tab_stays HGT.out HT.out B7 (Nat.le_refl _)
  go_wp2_with fail
  refine (iReadDecItoa_calls n _ hnb.1 hnb.2 T7.out).mono ?_
  rintro e w8 ⟨rfl, b8⟩
  have B8 := B7.trans (b8.mono B7.size)
  clear b8
  go_wp2_with fail
  refine (iHex_calls (txt T) _ (by rw [txt_size]; omega)).mono ?_
  rintro e w9 ⟨rfl, b9⟩
  have B9 := B8.trans (b9.mono B8.size)
  clear b9
  go_wp2_with fail
  refine (iUnhexHex_calls T _ (by omega)).mono ?_
  rintro e w10 ⟨rfl, b10⟩
  have B10 := B9.trans (b10.mono B9.size)
  clear b10
  go_wp2_with fail
  refine (CR.out _ B10).mono ?_
  rintro e w11 ⟨rfl, b11⟩
  have B11 := B10.trans (b11.mono B10.size)
  clear b11
  go_wp2_with fail
  refine (iReadVar_txt R _ (by omega)).mono ?_
  rintro e w12 ⟨rfl, rfl⟩
  have hRs : (txt R).size = R.length := rfl
  rcases rdv_sound R with hz | ⟨z1, z2, z3, z4⟩
  · have g8 : (((rdv R).2 : Int) == 0) = true := by rw [hz]; rfl
    clear hz
    go_wp2
    go_ret
    exact ⟨rfl, B11⟩
  · obtain ⟨j, hj⟩ : ∃ j, (rdv R).2 = j := ⟨_, rfl⟩
    obtain ⟨v, hv⟩ : ∃ v, (rdv R).1 = v := ⟨_, rfl⟩
    rw [hj, hv]
    rw [hj] at z1 z2 z4
    rw [hv] at z3 z4
    have HE : Hid (_ = true) := tail_eq R j (v : Int) z4
    clear z4 hj hv
    have g8 : ((j : Int) == 0) = false := by rw [beq_eq_false_iff_ne]; omega
    have hjs : j ≤ (txt R).size := z2
    go_wp2_with fail
    refine (CR.out _ B11).mono ?_
    rintro e w13 ⟨rfl, b13⟩
    have B13 := B11.trans (b13.mono B11.size)
    clear b13
    go_wp2_with fail
    refine (iVar_calls (v : Int) _).mono ?_
    rintro e w14 ⟨rfl, b14⟩
    have B14 := B13.trans (b14.mono B13.size)
    clear b14
    go_wp2_with fail
    refine (CR.out _ B14).mono ?_
    rintro e w15 ⟨rfl, b15⟩
    have B15 := B14.trans (b15.mono B14.size)
    clear b15
    have hE := HE.out
    go_wp2
    go_ret
    exact ⟨rfl, B15⟩

set_option maxRecDepth 100000 in
set_option maxHeartbeats 1000000 in
theorem numbers_small (a : Option Addr) (cap : Nat) (L : List UInt8) (n : Int) (hA : 0 ≤ n) (hB : n < 1000000000) (w : World) (hL : L.length ≤ 1048576) (hnum : num L (s0 L) = n) (hc : CodeAt w.heap.size w a L) (htab : Lib.TabIs Tryd.prog w "internal/strconv.uint64pow10" .u64 Lib.pow10Tab) :
    Calls Tryd.prog 3 #[.slice a L.length cap] w fun e w' => e = .returned (.bool true) ∧ Below w.heap.size w w' := by
  have HC : Hid (CodeAt w.heap.size w a L) := hc
  have HT : Hid (Lib.TabIs Tryd.prog w "internal/strconv.uint64pow10" .u64 Lib.pow10Tab) := htab
  clear hc htab
  have hbig : decide (1048576 < L.length) = false := by simp; omega
  have HGT : Hid (Tryd.prog.globalNamed "internal/strconv.uint64pow10" = some 0) := by show _ = _; kernel_rfl
  obtain ⟨T, hT⟩ : ∃ T, text L (s0 L) 40 = T := ⟨_, rfl⟩
  obtain ⟨R, hR⟩ : ∃ R, drv L = R := ⟨_, rfl⟩
  have hnb := num_bd L (s0 L)
  rw [hnum] at hnb
  have hTl := text_length L (s0 L) 40
  rw [hT] at hTl
  have hRl := drv_length L
  rw [hR] at hRl
  have CV : Hid (∀ w', Below w.heap.size w w' → _) := fun w' hb => drawVar_calls (cap := cap) (w := w') hL (code_below HC.out hb) hb.size
  have CH : Hid (∀ w', Below w.heap.size w w' → _) := fun w' hb => drawHex_calls (cap := cap) (w := w') hL (code_below HC.out hb) hb.size
  have CR : Hid (∀ w', Below w.heap.size w w' → _) := fun w' hb => drawReadVar_calls (cap := cap) (w := w') hL (code_below HC.out hb) hb.size
  rw [hnum] at CV
  rw [hT] at CH
  rw [hR] at CR
  clear hnum hT hR
  have hTs : (txt T).size ≤ 40 := hTl
  have hVs : (txt (varZ n)).size ≤ 7 := varZ_length n
  have hFs : (txt (fixZ n)).size ≤ 7 := fixZ_le n
  obtain ⟨f1, f1b⟩ := f1_in n ⟨by omega, by omega⟩
  obtain ⟨g1, g2⟩ := g12 n T ⟨by omega, by omega⟩
  obtain ⟨f2, f2b⟩ := f2_in n ⟨by omega, by omega⟩
  obtain ⟨g3, g4, g5⟩ := g345 n T ⟨by omega, by omega⟩
  have g4b : 7 ≤ (fixZ n).length + T.length := by simpa using g4
  obtain ⟨g6, g7⟩ := g6_in n ⟨by omega, by omega⟩
  go_enter Tryd.func3, Tryd.ntmps3
  go_wp2_with fail
  refine (big_calls a L.length cap w (by omega)).mono ?_
  rintro e w0 ⟨rfl, rfl⟩
  rw [hbig]
  go_wp2_with fail
  refine (CV.out _ (Below.refl _ _)).mono ?_
  rintro e w1 ⟨rfl, B1⟩
  go_wp2_with fail
  refine (CH.out _ B1).mono ?_
  rintro e w2 ⟨rfl, b2⟩
  have B2 := B1.trans (b2.mono B1.size)
  clear b2
  go_wp2_with fail
  refine (iVar_calls n _).mono ?_
  rintro e w3 ⟨rfl, b3⟩
  have B3 := B2.trans (b3.mono B2.size)
  clear b3
  go_wp2_with fail
  rw [txt_append]
  refine (iReadVar_txt (varZ n ++ T) _ (by have := varZ_length n; rw [List.length_append]; omega)).mono ?_
  rintro e w4 ⟨rfl, rfl⟩
  go_wp2_with fail
  refine (iFixed7_calls n _ (by omega)).mono ?_
  rintro e w5 ⟨rfl, b5⟩
  have B5 := B3.trans (b5.mono B3.size)
  clear b5
  go_wp2_with fail
  rw [txt_append]
  refine (iReadFixed7_calls (fixZ n ++ T) _ (by have := fixZ_le n; rw [List.length_append]; omega)).mono ?_
  rintro e w6 ⟨rfl, rfl⟩
  have T6 : Hid (Lib.TabIs Tryd.prog w6 "internal/strconv.uint64pow10" .u64 Lib.pow10Tab) := Joins.tab_stays HGT.out HT.out B5 (Nat.le_refl _)
  go_wp2_with fail
  refine (iDec_calls n _ hnb.1 hnb.2 T6.out).mono ?_
  rintro e w7 ⟨rfl, b7⟩
  have B7 := B5.trans (b7.mono B5.size)
  clear b7
  have T7 : Hid (Lib.TabIs Tryd.prog w7 "internal/strconv.uint64pow10" .u64 Lib.pow10Tab) := Joins.tab_stays HGT.out HT.out B7 (Nat.le_refl _)
  go_wp2_with fail
  refine (iReadDecItoa_calls n _ hnb.1 hnb.2 T7.out).mono ?_
  rintro e w8 ⟨rfl, b8⟩
  have B8 := B7.trans (b8.mono B7.size)
  clear b8
  go_wp2_with fail
  refine (iHex_calls (txt T) _ (by rw [txt_size]; omega)).mono ?_
  rintro e w9 ⟨rfl, b9⟩
  have B9 := B8.trans (b9.mono B8.size)
  clear b9
  go_wp2_with fail
  refine (iUnhexHex_calls T _ (by omega)).mono ?_
  rintro e w10 ⟨rfl, b10⟩
  have B10 := B9.trans (b10.mono B9.size)
  clear b10
  go_wp2_with fail
  refine (CR.out _ B10).mono ?_
  rintro e w11 ⟨rfl, b11⟩
  have B11 := B10.trans (b11.mono B10.size)
  clear b11
  go_wp2_with fail
  refine (iReadVar_txt R _ (by omega)).mono ?_
  rintro e w12 ⟨rfl, rfl⟩
  have hRs : (txt R).size = R.length := rfl
  rcases rdv_sound R with hz | ⟨z1, z2, z3, z4⟩
  · have g8 : (((rdv R).2 : Int) == 0) = true := by rw [hz]; rfl
    clear hz
    go_wp2
    go_ret
    exact ⟨rfl, B11⟩
  · obtain ⟨j, hj⟩ : ∃ j, (rdv R).2 = j := ⟨_, rfl⟩
    obtain ⟨v, hv⟩ : ∃ v, (rdv R).1 = v := ⟨_, rfl⟩
    rw [hj, hv]
    rw [hj] at z1 z2 z4
    rw [hv] at z3 z4
    have HE : Hid (_ = true) := tail_eq R j (v : Int) z4
    clear z4 hj hv
    have g8 : ((j : Int) == 0) = false := by rw [beq_eq_false_iff_ne]; omega
    have hjs : j ≤ (txt R).size := z2
    go_wp2_with fail
    refine (CR.out _ B11).mono ?_
    rintro e w13 ⟨rfl, b13⟩
    have B13 := B11.trans (b13.mono B11.size)
    clear b13
    go_wp2_with fail
    refine (iVar_calls (v : Int) _).mono ?_
    rintro e w14 ⟨rfl, b14⟩
    have B14 := B13.trans (b14.mono B13.size)
    clear b14
    go_wp2_with fail
    refine (CR.out _ B14).mono ?_
    rintro e w15 ⟨rfl, b15⟩
    have B15 := B14.trans (b15.mono B14.size)
    clear b15
    have hE := HE.out
    go_wp2
    go_ret
    exact ⟨rfl, B15⟩

set_option maxRecDepth 100000 in
set_option maxHeartbeats 1000000 in
theorem numbers_mid (a : Option Addr) (cap : Nat) (L : List UInt8) (n : Int) (hA : 1000000000 ≤ n) (hB : n ≤ 562949953421311) (w : World) (hL : L.length ≤ 1048576) (hnum : num L (s0 L) = n) (hc : CodeAt w.heap.size w a L) (htab : Lib.TabIs Tryd.prog w "internal/strconv.uint64pow10" .u64 Lib.pow10Tab) :
    Calls Tryd.prog 3 #[.slice a L.length cap] w fun e w' => e = .returned (.bool true) ∧ Below w.heap.size w w' := by
  have HC : Hid (CodeAt w.heap.size w a L) := hc
  have HT : Hid (Lib.TabIs Tryd.prog w "internal/strconv.uint64pow10" .u64 Lib.pow10Tab) := htab
  clear hc htab
  have hbig : decide (1048576 < L.length) = false := by simp; omega
  have HGT : Hid (Tryd.prog.globalNamed "internal/strconv.uint64pow10" = some 0) := by show _ = _; kernel_rfl
  obtain ⟨T, hT⟩ : ∃ T, text L (s0 L) 40 = T := ⟨_, rfl⟩
  obtain ⟨R, hR⟩ : ∃ R, drv L = R := ⟨_, rfl⟩
  have hnb := num_bd L (s0 L)
  rw [hnum] at hnb
  have hTl := text_length L (s0 L) 40
  rw [hT] at hTl
  have hRl := drv_length L
  rw [hR] at hRl
  have CV : Hid (∀ w', Below w.heap.size w w' → _) := fun w' hb => drawVar_calls (cap := cap) (w := w') hL (code_below HC.out hb) hb.size
  have CH : Hid (∀ w', Below w.heap.size w w' → _) := fun w' hb => drawHex_calls (cap := cap) (w := w') hL (code_below HC.out hb) hb.size
  have CR : Hid (∀ w', Below w.heap.size w w' → _) := fun w' hb => drawReadVar_calls (cap := cap) (w := w') hL (code_below HC.out hb) hb.size
  rw [hnum] at CV
  rw [hT] at CH
  rw [hR] at CR
  clear hnum hT hR
  have hTs : (txt T).size ≤ 40 := hTl
  have hVs : (txt (varZ n)).size ≤ 7 := varZ_length n
  have hFs : (txt (fixZ n)).size ≤ 7 := fixZ_le n
  obtain ⟨f1, f1b⟩ := f1_in n ⟨by omega, by omega⟩
  obtain ⟨g1, g2⟩ := g12 n T ⟨by omega, by omega⟩
  obtain ⟨f2, f2b⟩ := f2_in n ⟨by omega, by omega⟩
  obtain ⟨g3, g4, g5⟩ := g345 n T ⟨by omega, by omega⟩
  have g4b : 7 ≤ (fixZ n).length + T.length := by simpa using g4
  have g6 := g6_out n (by omega)
  go_enter Tryd.func3, Tryd.ntmps3
  go_wp2_with fail
  refine (big_calls a L.length cap w (by omega)).mono ?_
  rintro e w0 ⟨rfl, rfl⟩
  rw [hbig]
  go_wp2_with fail
  refine (CV.out _ (Below.refl _ _)).mono ?_
  rintro e w1 ⟨rfl, B1⟩
  go_wp2_with fail
  refine (CH.out _ B1).mono ?_
  rintro e w2 ⟨rfl, b2⟩
  have B2 := B1.trans (b2.mono B1.size)
  clear b2
  go_wp2_with fail
  refine (iVar_calls n _).mono ?_
  rintro e w3 ⟨rfl, b3⟩
  have B3 := B2.trans (b3.mono B2.size)
  clear b3
  go_wp2_with fail
  rw [txt_append]
  refine (iReadVar_txt (varZ n ++ T) _ (by have := varZ_length n; rw [List.length_append]; omega)).mono ?_
  rintro e w4 ⟨rfl, rfl⟩
  go_wp2_with fail
  refine (iFixed7_calls n _ (by omega)).mono ?_
  rintro e w5 ⟨rfl, b5⟩
  have B5 := B3.trans (b5.mono B3.size)
  clear b5
  go_wp2_with fail
  rw [txt_append]
  refine (iReadFixed7_calls (fixZ n ++ T) _ (by have := fixZ_le n; rw [List.length_append]; omega)).mono ?_
  rintro e w6 ⟨rfl, rfl⟩
  have T6 : Hid (Lib.TabIs Tryd.prog w6 "internal/strconv.uint64pow10" .u64 Lib.pow10Tab) := Joins.tab_stays HGT.out HT.out B5 (Nat.le_refl _)
  go_wp2_with fail
  refine (iDec_calls n _ hnb.1 hnb.2 T6.out).mono ?_
  rintro e w7 ⟨rfl, b7⟩
  have B7 := B5.trans (b7.mono B5.size)
  clear b7
  have T7 : Hid (Lib.TabIs Tryd.prog w7 "internal/strconv.uint64pow10" .u64 Lib.pow10Tab) := Joins.tab_stays HGT.out HT.out B7 (Nat.le_refl _)
  go_wp2_with fail
  refine (iReadDecItoa_calls n _ hnb.1 hnb.2 T7.out).mono ?_
  rintro e w8 ⟨rfl, b8⟩
  have B8 := B7.trans (b8.mono B7.size)
  clear b8
  go_wp2_with fail
  refine (iHex_calls (txt T) _ (by rw [txt_size]; omega)).mono ?_
  rintro e w9 ⟨rfl, b9⟩
  have B9 := B8.trans (b9.mono B8.size)
  clear b9
  go_wp2_with fail
  refine (iUnhexHex_calls T _ (by omega)).mono ?_
  rintro e w10 ⟨rfl, b10⟩
  have B10 := B9.trans (b10.mono B9.size)
  clear b10
  go_wp2_with fail
  refine (CR.out _ B10).mono ?_
  rintro e w11 ⟨rfl, b11⟩
  have B11 := B10.trans (b11.mono B10.size)
  clear b11
  go_wp2_with fail
  refine (iReadVar_txt R _ (by omega)).mono ?_
  rintro e w12 ⟨rfl, rfl⟩
  have hRs : (txt R).size = R.length := rfl
  rcases rdv_sound R with hz | ⟨z1, z2, z3, z4⟩
  · have g8 : (((rdv R).2 : Int) == 0) = true := by rw [hz]; rfl
    clear hz
    go_wp2
    go_ret
    exact ⟨rfl, B11⟩
  · obtain ⟨j, hj⟩ : ∃ j, (rdv R).2 = j := ⟨_, rfl⟩
    obtain ⟨v, hv⟩ : ∃ v, (rdv R).1 = v := ⟨_, rfl⟩
    rw [hj, hv]
    rw [hj] at z1 z2 z4
    rw [hv] at z3 z4
    have HE : Hid (_ = true) := tail_eq R j (v : Int) z4
    clear z4 hj hv
    have g8 : ((j : Int) == 0) = false := by rw [beq_eq_false_iff_ne]; omega
    have hjs : j ≤ (txt R).size := z2
    go_wp2_with fail
    refine (CR.out _ B11).mono ?_
    rintro e w13 ⟨rfl, b13⟩
    have B13 := B11.trans (b13.mono B11.size)
    clear b13
    go_wp2_with fail
    refine (iVar_calls (v : Int) _).mono ?_
    rintro e w14 ⟨rfl, b14⟩
    have B14 := B13.trans (b14.mono B13.size)
    clear b14
    go_wp2_with fail
    refine (CR.out _ B14).mono ?_
    rintro e w15 ⟨rfl, b15⟩
    have B15 := B14.trans (b15.mono B14.size)
    clear b15
    have hE := HE.out
    go_wp2
    go_ret
    exact ⟨rfl, B15⟩

set_option maxRecDepth 100000 in
set_option maxHeartbeats 1000000 in
theorem numbers_great (a : Option Addr) (cap : Nat) (L : List UInt8) (n : Int) (hA : 562949953421311 < n) (hB : n < 72057594037927936) (w : World) (hL : L.length ≤ 1048576) (hnum : num L (s0 L) = n) (hc : CodeAt w.heap.size w a L) (htab : Lib.TabIs Tryd.prog w "internal/strconv.uint64pow10" .u64 Lib.pow10Tab) :
    Calls Tryd.prog 3 #[.slice a L.length cap] w fun e w' => e = .returned (.bool true) ∧ Below w.heap.size w w' := by
  have HC : Hid (CodeAt w.heap.size w a L) := hc
  have HT : Hid (Lib.TabIs Tryd.prog w "internal/strconv.uint64pow10" .u64 Lib.pow10Tab) := htab
  clear hc htab
  have hbig : decide (1048576 < L.length) = false := by simp; omega
  have HGT : Hid (Tryd.prog.globalNamed "internal/strconv.uint64pow10" = some 0) := by show _ = _; kernel_rfl
  obtain ⟨T, hT⟩ : ∃ T, text L (s0 L) 40 = T := ⟨_, rfl⟩
  obtain ⟨R, hR⟩ : ∃ R, drv L = R := ⟨_, rfl⟩
  have hnb := num_bd L (s0 L)
  rw [hnum] at hnb
  have hTl := text_length L (s0 L) 40
  rw [hT] at hTl
  have hRl := drv_length L
  rw [hR] at hRl
  have CV : Hid (∀ w', Below w.heap.size w w' → _) := fun w' hb => drawVar_calls (cap := cap) (w := w') hL (code_below HC.out hb) hb.size
  have CH : Hid (∀ w', Below w.heap.size w w' → _) := fun w' hb => drawHex_calls (cap := cap) (w := w') hL (code_below HC.out hb) hb.size
  have CR : Hid (∀ w', Below w.heap.size w w' → _) := fun w' hb => drawReadVar_calls (cap := cap) (w := w') hL (code_below HC.out hb) hb.size
  rw [hnum] at CV
  rw [hT] at CH
  rw [hR] at CR
  clear hnum hT hR
  have hTs : (txt T).size ≤ 40 := hTl
  have hVs : (txt (varZ n)).size ≤ 7 := varZ_length n
  have hFs : (txt (fixZ n)).size ≤ 7 := fixZ_le n
  have f1 := f1_out n (by omega)
  obtain ⟨f2, f2b⟩ := f2_in n ⟨by omega, by omega⟩
  obtain ⟨g3, g4, g5⟩ := g345 n T ⟨by omega, by omega⟩
  have g4b : 7 ≤ (fixZ n).length + T.length := by simpa using g4
  have g6 := g6_out n (by omega)
  go_enter Tryd.func3, Tryd.ntmps3
  go_wp2_with fail
  refine (big_calls a L.length cap w (by omega)).mono ?_
  rintro e w0 ⟨rfl, rfl⟩
  rw [hbig]
  go_wp2_with fail
  refine (CV.out _ (Below.refl _ _)).mono ?_
  rintro e w1 ⟨rfl, B1⟩
  go_wp2_with fail
  refine (CH.out _ B1).mono ?_
  rintro e w2 ⟨rfl, b2⟩
  have B2 := B1.trans (b2.mono B1.size)
  clear b2
  go_wp2_with fail
  refine (iVar_calls n _).mono ?_
  rintro e w3 ⟨rfl, b3⟩
  have B3 := B2.trans (b3.mono B2.size)
  clear b3
  go_wp2_with fail
  rw [txt_append]
  refine (iReadVar_txt (varZ n ++ T) _ (by have := varZ_length n; rw [List.length_append]; omega)).mono ?_
  rintro e w4 ⟨rfl, rfl⟩
  go_wp2_with fail
  refine (iFixed7_calls n _ (by omega)).mono ?_
  rintro e w5 ⟨rfl, b5⟩
  have B5 := B3.trans (b5.mono B3.size)
  clear b5
  go_wp2_with fail
  rw [txt_append]
  refine (iReadFixed7_calls (fixZ n ++ T) _ (by have := fixZ_le n; rw [List.length_append]; omega)).mono ?_
  rintro e w6 ⟨rfl, rfl⟩
  have T6 : Hid (Lib.TabIs Tryd.prog w6 "internal/strconv.uint64pow10" .u64 Lib.pow10Tab) := Joins.tab_stays HGT.out HT.out B5 (Nat.le_refl _)
  go_wp2_with fail
  refine (iDec_calls n _ hnb.1 hnb.2 T6.out).mono ?_
  rintro e w7 ⟨rfl, b7⟩
  have B7 := B5.trans (b7.mono B5.size)
  clear b7
  have T7 : Hid (Lib.TabIs Tryd.prog w7 "internal/strconv.uint64pow10" .u64 Lib.pow10Tab) := Joins.tab_stays HGT.out HT.out B7 (Nat.le_refl _)
  go_wp2_with fail
  refine (iReadDecItoa_calls n _ hnb.1 hnb.2 T7.out).mono ?_
  rintro e w8 ⟨rfl, b8⟩
  have B8 := B7.trans (b8.mono B7.size)
  clear b8
  go_wp2_with fail
  refine (iHex_calls (txt T) _ (by rw [txt_size]; omega)).mono ?_
  rintro e w9 ⟨rfl, b9⟩
  have B9 := B8.trans (b9.mono B8.size)
  clear b9
  go_wp2_with fail
  refine (iUnhexHex_calls T _ (by omega)).mono ?_
  rintro e w10 ⟨rfl, b10⟩
  have B10 := B9.trans (b10.mono B9.size)
  clear b10
  go_wp2_with fail
  refine (CR.out _ B10).mono ?_
  rintro e w11 ⟨rfl, b11⟩
  have B11 := B10.trans (b11.mono B10.size)
  clear b11
  go_wp2_with fail
  refine (iReadVar_txt R _ (by omega)).mono ?_
  rintro e w12 ⟨rfl, rfl⟩
  have hRs : (txt R).size = R.length := rfl
  rcases rdv_sound R with hz | ⟨z1, z2, z3, z4⟩
  · have g8 : (((rdv R).2 : Int) == 0) = true := by rw [hz]; rfl
    clear hz
    go_wp2
    go_ret
    exact ⟨rfl, B11⟩
  · obtain ⟨j, hj⟩ : ∃ j, (rdv R).2 = j := ⟨_, rfl⟩
    obtain ⟨v, hv⟩ : ∃ v, (rdv R).1 = v := ⟨_, rfl⟩
    rw [hj, hv]
    rw [hj] at z1 z2 z4
    rw [hv] at z3 z4
    have HE : Hid (_ = true) := tail_eq R j (v : Int) z4
    clear z4 hj hv
    have g8 : ((j : Int) == 0) = false := by rw [beq_eq_false_iff_ne]; omega
    have hjs : j ≤ (txt R).size := z2
    go_wp2_with fail
    refine (CR.out _ B11).mono ?_
    rintro e w13 ⟨rfl, b13⟩
    have B13 := B11.trans (b13.mono B11.size)
    clear b13
    go_wp2_with fail
    refine (iVar_calls (v : Int) _).mono ?_
    rintro e w14 ⟨rfl, b14⟩
    have B14 := B13.trans (b14.mono B13.size)
    clear b14
    go_wp2_with fail
    refine (CR.out _ B14).mono ?_
    rintro e w15 ⟨rfl, b15⟩
    have B15 := B14.trans (b15.mono B14.size)
    clear b15
    have hE := HE.out
    go_wp2
    go_ret
    exact ⟨rfl, B15⟩

set_option maxRecDepth 100000 in
set_option maxHeartbeats 1000000 in
theorem numbers_most (a : Option Addr) (cap : Nat) (L : List UInt8) (n : Int) (hA : 72057594037927936 ≤ n) (w : World) (hL : L.length ≤ 1048576) (hnum : num L (s0 L) = n) (hc : CodeAt w.heap.size w a L) (htab : Lib.TabIs Tryd.prog w "internal/strconv.uint64pow10" .u64 Lib.pow10Tab) :
    Calls Tryd.prog 3 #[.slice a L.length cap] w fun e w' => e = .returned (.bool true) ∧ Below w.heap.size w w' := by
  have HC : Hid (CodeAt w.heap.size w a L) := hc
  have HT : Hid (Lib.TabIs Tryd.prog w "internal/strconv.uint64pow10" .u64 Lib.pow10Tab) := htab
  clear hc htab
  have hbig : decide (1048576 < L.length) = false := by simp; omega
  have HGT : Hid (Tryd.prog.globalNamed "internal/strconv.uint64pow10" = some 0) := by show _ = _; kernel_rfl
  obtain ⟨T, hT⟩ : ∃ T, text L (s0 L) 40 = T := ⟨_, rfl⟩
  obtain ⟨R, hR⟩ : ∃ R, drv L = R := ⟨_, rfl⟩
  have hnb := num_bd L (s0 L)
  rw [hnum] at hnb
  have hTl := text_length L (s0 L) 40
  rw [hT] at hTl
  have hRl := drv_length L
  rw [hR] at hRl
  have CV : Hid (∀ w', Below w.heap.size w w' → _) := fun w' hb => drawVar_calls (cap := cap) (w := w') hL (code_below HC.out hb) hb.size
  have CH : Hid (∀ w', Below w.heap.size w w' → _) := fun w' hb => drawHex_calls (cap := cap) (w := w') hL (code_below HC.out hb) hb.size
  have CR : Hid (∀ w', Below w.heap.size w w' → _) := fun w' hb => drawReadVar_calls (cap := cap) (w := w') hL (code_below HC.out hb) hb.size
  rw [hnum] at CV
  rw [hT] at CH
  rw [hR] at CR
  clear hnum hT hR
  have hTs : (txt T).size ≤ 40 := hTl
  have hVs : (txt (varZ n)).size ≤ 7 := varZ_length n
  have hFs : (txt (fixZ n)).size ≤ 7 := fixZ_le n
  have f1 := f1_out n (by omega)
  have f2 := f2_out n (by omega)
  have g6 := g6_out n (by omega)
  go_enter Tryd.func3, Tryd.ntmps3
  go_wp2_with fail
  refine (big_calls a L.length cap w (by omega)).mono ?_
  rintro e w0 ⟨rfl, rfl⟩
  rw [hbig]
  go_wp2_with fail
  refine (CV.out _ (Below.refl _ _)).mono ?_
  rintro e w1 ⟨rfl, B1⟩
  go_wp2_with fail
  refine (CH.out _ B1).mono ?_
  rintro e w2 ⟨rfl, b2⟩
  have B2 := B1.trans (b2.mono B1.size)
  clear b2
  go_wp2_with fail
  refine (iVar_calls n _).mono ?_
  rintro e w3 ⟨rfl, b3⟩
  have B3 := B2.trans (b3.mono B2.size)
  clear b3
  go_wp2_with fail
  rw [txt_append]
  refine (iReadVar_txt (varZ n ++ T) _ (by have := varZ_length n; rw [List.length_append]; omega)).mono ?_
  rintro e w4 ⟨rfl, rfl⟩
  go_wp2_with fail
  refine (iFixed7_calls n _ (by omega)).mono ?_
  rintro e w5 ⟨rfl, b5⟩
  have B5 := B3.trans (b5.mono B3.size)
  clear b5
  go_wp2_with fail
  rw [txt_append]
  refine (iReadFixed7_calls (fixZ n ++ T) _ (by have := fixZ_le n; rw [List.length_append]; omega)).mono ?_
  rintro e w6 ⟨rfl, rfl⟩
  have T6 : Hid (Lib.TabIs Tryd.prog w6 "internal/strconv.uint64pow10" .u64 Lib.pow10Tab) := Joins.tab_stays HGT.out HT.out B5 (Nat.le_refl _)
  go_wp2_with fail
  refine (iDec_calls n _ hnb.1 hnb.2 T6.out).mono ?_
  rintro e w7 ⟨rfl, b7⟩
  have B7 := B5.trans (b7.mono B5.size)
  clear b7
  have T7 : Hid (Lib.TabIs Tryd.prog w7 "internal/strconv.uint64pow10" .u64 Lib.pow10Tab) := Joins.tab_stays HGT.out HT.out B7 (Nat.le_refl _)
  go_wp2_with fail
  refine (iReadDecItoa_calls n _ hnb.1 hnb.2 T7.out).mono ?_
  rintro e w8 ⟨rfl, b8⟩
  have B8 := B7.trans (b8.mono B7.size)
  clear b8
  go_wp2_with fail
  refine (iHex_calls (txt T) _ (by rw [txt_size]; omega)).mono ?_
  rintro e w9 ⟨rfl, b9⟩
  have B9 := B8.trans (b9.mono B8.size)
  clear b9
  go_wp2_with fail
  refine (iUnhexHex_calls T _ (by omega)).mono ?_
  rintro e w10 ⟨rfl, b10⟩
  have B10 := B9.trans (b10.mono B9.size)
  clear b10
  go_wp2_with fail
  refine (CR.out _ B10).mono ?_
  rintro e w11 ⟨rfl, b11⟩
  have B11 := B10.trans (b11.mono B10.size)
  clear b11
  go_wp2_with fail
  refine (iReadVar_txt R _ (by omega)).mono ?_
  rintro e w12 ⟨rfl, rfl⟩
  have hRs : (txt R).size = R.length := rfl
  rcases rdv_sound R with hz | ⟨z1, z2, z3, z4⟩
  · have g8 : (((rdv R).2 : Int) == 0) = true := by rw [hz]; rfl
    clear hz
    go_wp2
    go_ret
    exact ⟨rfl, B11⟩
  · obtain ⟨j, hj⟩ : ∃ j, (rdv R).2 = j := ⟨_, rfl⟩
    obtain ⟨v, hv⟩ : ∃ v, (rdv R).1 = v := ⟨_, rfl⟩
    rw [hj, hv]
    rw [hj] at z1 z2 z4
    rw [hv] at z3 z4
    have HE : Hid (_ = true) := tail_eq R j (v : Int) z4
    clear z4 hj hv
    have g8 : ((j : Int) == 0) = false := by rw [beq_eq_false_iff_ne]; omega
    have hjs : j ≤ (txt R).size := z2
    go_wp2_with fail
    refine (CR.out _ B11).mono ?_
    rintro e w13 ⟨rfl, b13⟩
    have B13 := B11.trans (b13.mono B11.size)
    clear b13
    go_wp2_with fail
    refine (iVar_calls (v : Int) _).mono ?_
    rintro e w14 ⟨rfl, b14⟩
    have B14 := B13.trans (b14.mono B13.size)
    clear b14
    go_wp2_with fail
    refine (CR.out _ B14).mono ?_
    rintro e w15 ⟨rfl, b15⟩
    have B15 := B14.trans (b15.mono B14.size)
    clear b15
    have hE := HE.out
    go_wp2
    go_ret
    exact ⟨rfl, B15⟩

end Go.Proofs.YtdkdjelbgegmeabDoor
