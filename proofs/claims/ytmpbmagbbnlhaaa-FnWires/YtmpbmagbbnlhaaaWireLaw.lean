/- The law on wires, walked: one theorem for each kind of the drawn number and text. -/
import Derived.Test.YtmpbmagbbnlhaaaWireDraw
import Derived.Test.YtmpbmagbbnlhaaaWire3Walks
import Derived.Test.YtmpbmagbbnlhaaaWire4Walks
namespace Go.Proofs.Ytmpbmagbbnlhaaa
open Go.RowKit
set_option linter.unusedVariables false

def tailL : List UInt8 := [116, 97, 105, 108]

theorem iReadInt_txt (l : List UInt8) (w : World) (h : l.length ≤ 1048576) :
    Calls Try.prog 12 #[.string (txt l)] w fun e w' => e = .returned (.tuple #[.int .i64 (rdi l).1, .int .i64 ((rdi l).2 : Int)]) ∧ w' = w :=
  iReadInt_calls (txt l) w h

theorem w1_in (n : Int) (h : -100000000000000 ≤ n ∧ n ≤ 100000000000000) : ¬ (txt (showZ n)).toList = [] ∧ (txt (showZ n)).toList.isEmpty = false := by
  have e : (txt (showZ n)).toList = varB 6 (zigZ n).toNat := by rw [showZ_in n h]; unfold txt; rw [ByteArray.toList_mk]
  rw [e]
  refine ⟨varB_ne _ _, ?_⟩
  cases hr : varB 6 (zigZ n).toNat with
  | nil => exact absurd hr (varB_ne _ _)
  | cons c r => rfl
theorem w1_out (n : Int) (h : ¬ (-100000000000000 ≤ n ∧ n ≤ 100000000000000)) : (txt (showZ n)).toList = [] := by rw [showZ_out n h]; unfold txt; rw [ByteArray.toList_mk]
theorem w12 (n : Int) (h : -100000000000000 ≤ n ∧ n ≤ 100000000000000) : (rdi (showZ n ++ tailL)).1 = n ∧ ((rdi (showZ n ++ tailL)).2 : Int) = ((txt (showZ n)).size : Int) := by
  rw [rdi_show n tailL h, txt_size]
  exact ⟨rfl, rfl⟩
theorem w2_in (T : List UInt8) (h : T.length ≤ 8) : ¬ (txt (showT T)).toList = [] ∧ (txt (showT T)).toList.isEmpty = false := by
  have e : (txt (showT T)).toList = UInt8.ofNat T.length :: T := by rw [showT_one T h]; unfold txt; rw [ByteArray.toList_mk]
  rw [e]
  exact ⟨by simp, rfl⟩
theorem w2_out (T : List UInt8) (h : 8 < T.length) : (txt (showT T)).toList = [] := by rw [showT_out T h]; unfold txt; rw [ByteArray.toList_mk]
theorem w34 (T : List UInt8) (h : T.length ≤ 8) : (rdt (showT T ++ tailL)).1 = T ∧ ((rdt (showT T ++ tailL)).2 : Int) = ((txt (showT T)).size : Int) := by
  rw [rdt_show T tailL h, txt_size]
  exact ⟨rfl, rfl⟩

theorem wtail_eq (R : List UInt8) (j : Nat) (v : Int) (h : showZ v = R.take j) : ((txt (showZ v)).toList == ((txt R).extract 0 j).toList) = true := by
  rw [ext_to, h]; simp

set_option maxRecDepth 100000 in
set_option maxHeartbeats 1000000 in
theorem wires_shortIn (a : Option Addr) (cap : Nat) (L : List UInt8) (n : Int) (T : List UInt8) (hA : -100000000000000 ≤ n ∧ n ≤ 100000000000000) (hB : T.length ≤ 8) (w : World) (hL : L.length ≤ 1048576) (hnum : l3 L (s0 L) = n) (hT : text L (s0 L) 12 = T) (hc : CodeAt w.heap.size w a L) :
    Calls Try.prog 3 #[.slice a L.length cap] w fun e w' => e = .returned (.bool true) ∧ Below w.heap.size w w' := by
  have HC : Hid (CodeAt w.heap.size w a L) := hc
  clear hc
  have hbig : decide (1048576 < L.length) = false := by simp; omega
  obtain ⟨R, hR⟩ : ∃ R, dri L = R := ⟨_, rfl⟩
  have hTl := text_length L (s0 L) 12
  rw [hT] at hTl
  have hRl := dri_length L
  rw [hR] at hRl
  have CV : Hid (∀ w', Below w.heap.size w w' → _) := fun w' hb => drawShowInt_calls (cap := cap) (w := w') hL (code_below HC.out hb) hb.size
  have CH : Hid (∀ w', Below w.heap.size w w' → _) := fun w' hb => drawShowText_calls (cap := cap) (w := w') hL (code_below HC.out hb) hb.size
  have CR : Hid (∀ w', Below w.heap.size w w' → _) := fun w' hb => drawReadInt_calls (cap := cap) (w := w') hL (code_below HC.out hb) hb.size
  rw [hnum] at CV
  rw [hT] at CH
  rw [hR] at CR
  clear hnum hT hR
  have hTs : (txt T).size = T.length := rfl
  have hVs : (txt (showZ n)).size ≤ 7 := showZ_length n
  have hFs : (txt (showT T)).size ≤ 9 := showT_length T
  have A1 : txt (showZ n) ++ ({ data := #[116, 97, 105, 108] } : ByteArray) = txt (showZ n ++ tailL) := txt_append (showZ n) tailL
  have A2 : txt (showT T) ++ ({ data := #[116, 97, 105, 108] } : ByteArray) = txt (showT T ++ tailL) := txt_append (showT T) tailL
  obtain ⟨f1, f1b⟩ := w1_in n hA
  obtain ⟨g1, g2⟩ := w12 n hA
  have g3 := zag_zig n hA
  have hA1 := hA.1
  have hA2 := hA.2
  obtain ⟨f2, f2b⟩ := w2_in T hB
  obtain ⟨g4, g5⟩ := w34 T hB
  go_enter Try.func3, Try.ntmps3
  go_wp2_with fail
  refine (big_calls a L.length cap w (by omega)).mono ?_
  rintro e w0 ⟨rfl, rfl⟩
  rw [hbig]
  go_wp2_with fail
  refine (CV.out _ (Below.refl _ _)).mono ?_
  rintro e w1 ⟨rfl, B1⟩
  go_wp2_with fail
  refine (iShowInt_calls n _).mono ?_
  rintro e w2 ⟨rfl, b2⟩
  have B2 := B1.trans (b2.mono B1.size)
  clear b2
  go_wp2_with fail
  refine (iReadInt_txt (showZ n ++ tailL) _ (by have := showZ_length n; rw [List.length_append]; show _ + 4 ≤ _; omega)).mono ?_
  rintro e w3 ⟨rfl, rfl⟩
  go_wp2_with fail
  refine (iZig_calls n _).mono ?_
  rintro e w4 ⟨rfl, rfl⟩
  go_wp2_with fail
  refine (iZag_calls (zigZ n) _ (by have := zig_bd n; omega)).mono ?_
  rintro e w5 ⟨rfl, rfl⟩
  go_wp2_with fail
  refine (CH.out _ B2).mono ?_
  rintro e w6 ⟨rfl, b6⟩
  have B6 := B2.trans (b6.mono B2.size)
  clear b6
  go_wp2_with fail
  refine (iShowText_calls T _ (by omega)).mono ?_
  rintro e w7 ⟨rfl, b7⟩
  have B7 := B6.trans (b7.mono B6.size)
  clear b7
  go_wp2_with fail
  refine (iReadText_calls (showT T ++ tailL) _ (by have := showT_length T; rw [List.length_append]; show _ + 4 ≤ _; omega)).mono ?_
  rintro e w8 ⟨rfl, b8⟩
  have B8 := B7.trans (b8.mono B7.size)
  clear b8
  go_wp2_with fail
  refine (CR.out _ B8).mono ?_
  rintro e w9 ⟨rfl, b9⟩
  have B9 := B8.trans (b9.mono B8.size)
  clear b9
  go_wp2_with fail
  refine (iReadInt_txt R _ (by omega)).mono ?_
  rintro e w10 ⟨rfl, rfl⟩
  have hRs : (txt R).size = R.length := rfl
  rcases rdi_sound R with hz | ⟨z1, z2, z4⟩
  · have g8 : (((rdi R).2 : Int) == 0) = true := by rw [hz]; rfl
    clear hz
    go_wp2
    go_big_region
    all_goals
      go_wp2
      go_ret
      exact ⟨rfl, B9.drew⟩
  · obtain ⟨j, hj⟩ : ∃ j, (rdi R).2 = j := ⟨_, rfl⟩
    obtain ⟨v, hv⟩ : ∃ v, (rdi R).1 = v := ⟨_, rfl⟩
    rw [hj, hv]
    rw [hj] at z1 z2 z4
    rw [hv] at z4
    have HE : Hid (_ = true) := wtail_eq R j v z4
    clear z4 hj hv
    have g8 : ((j : Int) == 0) = false := by rw [beq_eq_false_iff_ne]; omega
    have hjs : j ≤ (txt R).size := z2
    have j1 : (0 : Int) ≤ (j : Int) := by omega
    have j2 : (0 : Int) < (j : Int) := by omega
    have j3 : (j : Int) ≤ (R.length : Int) := by omega
    have hE := HE.out
    go_wp2
    have jn : 0 < j := by omega
    go_region_held (fun _ => True) (trivial) ((go_at_call 11; refine (iShowInt_calls v _).mono ?_; rintro e w11 ⟨rfl, b11⟩))
    all_goals
      go_wp2
      go_ret
      exact ⟨rfl, B9.drew.trans (b11.mono B9.size)⟩

set_option maxRecDepth 100000 in
set_option maxHeartbeats 1000000 in
theorem wires_longIn (a : Option Addr) (cap : Nat) (L : List UInt8) (n : Int) (T : List UInt8) (hA : -100000000000000 ≤ n ∧ n ≤ 100000000000000) (hB : 8 < T.length) (w : World) (hL : L.length ≤ 1048576) (hnum : l3 L (s0 L) = n) (hT : text L (s0 L) 12 = T) (hc : CodeAt w.heap.size w a L) :
    Calls Try.prog 3 #[.slice a L.length cap] w fun e w' => e = .returned (.bool true) ∧ Below w.heap.size w w' := by
  have HC : Hid (CodeAt w.heap.size w a L) := hc
  clear hc
  have hbig : decide (1048576 < L.length) = false := by simp; omega
  obtain ⟨R, hR⟩ : ∃ R, dri L = R := ⟨_, rfl⟩
  have hTl := text_length L (s0 L) 12
  rw [hT] at hTl
  have hRl := dri_length L
  rw [hR] at hRl
  have CV : Hid (∀ w', Below w.heap.size w w' → _) := fun w' hb => drawShowInt_calls (cap := cap) (w := w') hL (code_below HC.out hb) hb.size
  have CH : Hid (∀ w', Below w.heap.size w w' → _) := fun w' hb => drawShowText_calls (cap := cap) (w := w') hL (code_below HC.out hb) hb.size
  have CR : Hid (∀ w', Below w.heap.size w w' → _) := fun w' hb => drawReadInt_calls (cap := cap) (w := w') hL (code_below HC.out hb) hb.size
  rw [hnum] at CV
  rw [hT] at CH
  rw [hR] at CR
  clear hnum hT hR
  have hTs : (txt T).size = T.length := rfl
  have hVs : (txt (showZ n)).size ≤ 7 := showZ_length n
  have hFs : (txt (showT T)).size ≤ 9 := showT_length T
  have A1 : txt (showZ n) ++ ({ data := #[116, 97, 105, 108] } : ByteArray) = txt (showZ n ++ tailL) := txt_append (showZ n) tailL
  have A2 : txt (showT T) ++ ({ data := #[116, 97, 105, 108] } : ByteArray) = txt (showT T ++ tailL) := txt_append (showT T) tailL
  obtain ⟨f1, f1b⟩ := w1_in n hA
  obtain ⟨g1, g2⟩ := w12 n hA
  have g3 := zag_zig n hA
  have hA1 := hA.1
  have hA2 := hA.2
  have f2 := w2_out T hB
  go_enter Try.func3, Try.ntmps3
  go_wp2_with fail
  refine (big_calls a L.length cap w (by omega)).mono ?_
  rintro e w0 ⟨rfl, rfl⟩
  rw [hbig]
  go_wp2_with fail
  refine (CV.out _ (Below.refl _ _)).mono ?_
  rintro e w1 ⟨rfl, B1⟩
  go_wp2_with fail
  refine (iShowInt_calls n _).mono ?_
  rintro e w2 ⟨rfl, b2⟩
  have B2 := B1.trans (b2.mono B1.size)
  clear b2
  go_wp2_with fail
  refine (iReadInt_txt (showZ n ++ tailL) _ (by have := showZ_length n; rw [List.length_append]; show _ + 4 ≤ _; omega)).mono ?_
  rintro e w3 ⟨rfl, rfl⟩
  go_wp2_with fail
  refine (iZig_calls n _).mono ?_
  rintro e w4 ⟨rfl, rfl⟩
  go_wp2_with fail
  refine (iZag_calls (zigZ n) _ (by have := zig_bd n; omega)).mono ?_
  rintro e w5 ⟨rfl, rfl⟩
  go_wp2_with fail
  refine (CH.out _ B2).mono ?_
  rintro e w6 ⟨rfl, b6⟩
  have B6 := B2.trans (b6.mono B2.size)
  clear b6
  go_wp2_with fail
  refine (iShowText_calls T _ (by omega)).mono ?_
  rintro e w7 ⟨rfl, b7⟩
  have B7 := B6.trans (b7.mono B6.size)
  clear b7
  go_wp2_with fail
  refine (iReadText_calls (showT T ++ tailL) _ (by have := showT_length T; rw [List.length_append]; show _ + 4 ≤ _; omega)).mono ?_
  rintro e w8 ⟨rfl, b8⟩
  have B8 := B7.trans (b8.mono B7.size)
  clear b8
  go_wp2_with fail
  refine (CR.out _ B8).mono ?_
  rintro e w9 ⟨rfl, b9⟩
  have B9 := B8.trans (b9.mono B8.size)
  clear b9
  go_wp2_with fail
  refine (iReadInt_txt R _ (by omega)).mono ?_
  rintro e w10 ⟨rfl, rfl⟩
  have hRs : (txt R).size = R.length := rfl
  rcases rdi_sound R with hz | ⟨z1, z2, z4⟩
  · have g8 : (((rdi R).2 : Int) == 0) = true := by rw [hz]; rfl
    clear hz
    go_wp2
    go_big_region
    all_goals
      go_wp2
      go_ret
      exact ⟨rfl, B9.drew⟩
  · obtain ⟨j, hj⟩ : ∃ j, (rdi R).2 = j := ⟨_, rfl⟩
    obtain ⟨v, hv⟩ : ∃ v, (rdi R).1 = v := ⟨_, rfl⟩
    rw [hj, hv]
    rw [hj] at z1 z2 z4
    rw [hv] at z4
    have HE : Hid (_ = true) := wtail_eq R j v z4
    clear z4 hj hv
    have g8 : ((j : Int) == 0) = false := by rw [beq_eq_false_iff_ne]; omega
    have hjs : j ≤ (txt R).size := z2
    have j1 : (0 : Int) ≤ (j : Int) := by omega
    have j2 : (0 : Int) < (j : Int) := by omega
    have j3 : (j : Int) ≤ (R.length : Int) := by omega
    have hE := HE.out
    go_wp2
    have jn : 0 < j := by omega
    go_region_held (fun _ => True) (trivial) ((go_at_call 11; refine (iShowInt_calls v _).mono ?_; rintro e w11 ⟨rfl, b11⟩))
    all_goals
      go_wp2
      go_ret
      exact ⟨rfl, B9.drew.trans (b11.mono B9.size)⟩

set_option maxRecDepth 100000 in
set_option maxHeartbeats 1000000 in
theorem wires_shortLow (a : Option Addr) (cap : Nat) (L : List UInt8) (n : Int) (T : List UInt8) (hA : n < -100000000000000) (hB : T.length ≤ 8) (w : World) (hL : L.length ≤ 1048576) (hnum : l3 L (s0 L) = n) (hT : text L (s0 L) 12 = T) (hc : CodeAt w.heap.size w a L) :
    Calls Try.prog 3 #[.slice a L.length cap] w fun e w' => e = .returned (.bool true) ∧ Below w.heap.size w w' := by
  have HC : Hid (CodeAt w.heap.size w a L) := hc
  clear hc
  have hbig : decide (1048576 < L.length) = false := by simp; omega
  obtain ⟨R, hR⟩ : ∃ R, dri L = R := ⟨_, rfl⟩
  have hTl := text_length L (s0 L) 12
  rw [hT] at hTl
  have hRl := dri_length L
  rw [hR] at hRl
  have CV : Hid (∀ w', Below w.heap.size w w' → _) := fun w' hb => drawShowInt_calls (cap := cap) (w := w') hL (code_below HC.out hb) hb.size
  have CH : Hid (∀ w', Below w.heap.size w w' → _) := fun w' hb => drawShowText_calls (cap := cap) (w := w') hL (code_below HC.out hb) hb.size
  have CR : Hid (∀ w', Below w.heap.size w w' → _) := fun w' hb => drawReadInt_calls (cap := cap) (w := w') hL (code_below HC.out hb) hb.size
  rw [hnum] at CV
  rw [hT] at CH
  rw [hR] at CR
  clear hnum hT hR
  have hTs : (txt T).size = T.length := rfl
  have hVs : (txt (showZ n)).size ≤ 7 := showZ_length n
  have hFs : (txt (showT T)).size ≤ 9 := showT_length T
  have A1 : txt (showZ n) ++ ({ data := #[116, 97, 105, 108] } : ByteArray) = txt (showZ n ++ tailL) := txt_append (showZ n) tailL
  have A2 : txt (showT T) ++ ({ data := #[116, 97, 105, 108] } : ByteArray) = txt (showT T ++ tailL) := txt_append (showT T) tailL
  have f1 := w1_out n (by omega)
  obtain ⟨f2, f2b⟩ := w2_in T hB
  obtain ⟨g4, g5⟩ := w34 T hB
  go_enter Try.func3, Try.ntmps3
  go_wp2_with fail
  refine (big_calls a L.length cap w (by omega)).mono ?_
  rintro e w0 ⟨rfl, rfl⟩
  rw [hbig]
  go_wp2_with fail
  refine (CV.out _ (Below.refl _ _)).mono ?_
  rintro e w1 ⟨rfl, B1⟩
  go_wp2_with fail
  refine (iShowInt_calls n _).mono ?_
  rintro e w2 ⟨rfl, b2⟩
  have B2 := B1.trans (b2.mono B1.size)
  clear b2
  go_wp2_with fail
  refine (iReadInt_txt (showZ n ++ tailL) _ (by have := showZ_length n; rw [List.length_append]; show _ + 4 ≤ _; omega)).mono ?_
  rintro e w3 ⟨rfl, rfl⟩
  go_wp2_with fail
  refine (CH.out _ B2).mono ?_
  rintro e w6 ⟨rfl, b6⟩
  have B6 := B2.trans (b6.mono B2.size)
  clear b6
  go_wp2_with fail
  refine (iShowText_calls T _ (by omega)).mono ?_
  rintro e w7 ⟨rfl, b7⟩
  have B7 := B6.trans (b7.mono B6.size)
  clear b7
  go_wp2_with fail
  refine (iReadText_calls (showT T ++ tailL) _ (by have := showT_length T; rw [List.length_append]; show _ + 4 ≤ _; omega)).mono ?_
  rintro e w8 ⟨rfl, b8⟩
  have B8 := B7.trans (b8.mono B7.size)
  clear b8
  go_wp2_with fail
  refine (CR.out _ B8).mono ?_
  rintro e w9 ⟨rfl, b9⟩
  have B9 := B8.trans (b9.mono B8.size)
  clear b9
  go_wp2_with fail
  refine (iReadInt_txt R _ (by omega)).mono ?_
  rintro e w10 ⟨rfl, rfl⟩
  have hRs : (txt R).size = R.length := rfl
  rcases rdi_sound R with hz | ⟨z1, z2, z4⟩
  · have g8 : (((rdi R).2 : Int) == 0) = true := by rw [hz]; rfl
    clear hz
    go_wp2
    go_big_region
    all_goals
      go_wp2
      go_ret
      exact ⟨rfl, B9.drew⟩
  · obtain ⟨j, hj⟩ : ∃ j, (rdi R).2 = j := ⟨_, rfl⟩
    obtain ⟨v, hv⟩ : ∃ v, (rdi R).1 = v := ⟨_, rfl⟩
    rw [hj, hv]
    rw [hj] at z1 z2 z4
    rw [hv] at z4
    have HE : Hid (_ = true) := wtail_eq R j v z4
    clear z4 hj hv
    have g8 : ((j : Int) == 0) = false := by rw [beq_eq_false_iff_ne]; omega
    have hjs : j ≤ (txt R).size := z2
    have j1 : (0 : Int) ≤ (j : Int) := by omega
    have j2 : (0 : Int) < (j : Int) := by omega
    have j3 : (j : Int) ≤ (R.length : Int) := by omega
    have hE := HE.out
    go_wp2
    have jn : 0 < j := by omega
    go_region_held (fun _ => True) (trivial) ((go_at_call 11; refine (iShowInt_calls v _).mono ?_; rintro e w11 ⟨rfl, b11⟩))
    all_goals
      go_wp2
      go_ret
      exact ⟨rfl, B9.drew.trans (b11.mono B9.size)⟩

set_option maxRecDepth 100000 in
set_option maxHeartbeats 1000000 in
theorem wires_longLow (a : Option Addr) (cap : Nat) (L : List UInt8) (n : Int) (T : List UInt8) (hA : n < -100000000000000) (hB : 8 < T.length) (w : World) (hL : L.length ≤ 1048576) (hnum : l3 L (s0 L) = n) (hT : text L (s0 L) 12 = T) (hc : CodeAt w.heap.size w a L) :
    Calls Try.prog 3 #[.slice a L.length cap] w fun e w' => e = .returned (.bool true) ∧ Below w.heap.size w w' := by
  have HC : Hid (CodeAt w.heap.size w a L) := hc
  clear hc
  have hbig : decide (1048576 < L.length) = false := by simp; omega
  obtain ⟨R, hR⟩ : ∃ R, dri L = R := ⟨_, rfl⟩
  have hTl := text_length L (s0 L) 12
  rw [hT] at hTl
  have hRl := dri_length L
  rw [hR] at hRl
  have CV : Hid (∀ w', Below w.heap.size w w' → _) := fun w' hb => drawShowInt_calls (cap := cap) (w := w') hL (code_below HC.out hb) hb.size
  have CH : Hid (∀ w', Below w.heap.size w w' → _) := fun w' hb => drawShowText_calls (cap := cap) (w := w') hL (code_below HC.out hb) hb.size
  have CR : Hid (∀ w', Below w.heap.size w w' → _) := fun w' hb => drawReadInt_calls (cap := cap) (w := w') hL (code_below HC.out hb) hb.size
  rw [hnum] at CV
  rw [hT] at CH
  rw [hR] at CR
  clear hnum hT hR
  have hTs : (txt T).size = T.length := rfl
  have hVs : (txt (showZ n)).size ≤ 7 := showZ_length n
  have hFs : (txt (showT T)).size ≤ 9 := showT_length T
  have A1 : txt (showZ n) ++ ({ data := #[116, 97, 105, 108] } : ByteArray) = txt (showZ n ++ tailL) := txt_append (showZ n) tailL
  have A2 : txt (showT T) ++ ({ data := #[116, 97, 105, 108] } : ByteArray) = txt (showT T ++ tailL) := txt_append (showT T) tailL
  have f1 := w1_out n (by omega)
  have f2 := w2_out T hB
  go_enter Try.func3, Try.ntmps3
  go_wp2_with fail
  refine (big_calls a L.length cap w (by omega)).mono ?_
  rintro e w0 ⟨rfl, rfl⟩
  rw [hbig]
  go_wp2_with fail
  refine (CV.out _ (Below.refl _ _)).mono ?_
  rintro e w1 ⟨rfl, B1⟩
  go_wp2_with fail
  refine (iShowInt_calls n _).mono ?_
  rintro e w2 ⟨rfl, b2⟩
  have B2 := B1.trans (b2.mono B1.size)
  clear b2
  go_wp2_with fail
  refine (iReadInt_txt (showZ n ++ tailL) _ (by have := showZ_length n; rw [List.length_append]; show _ + 4 ≤ _; omega)).mono ?_
  rintro e w3 ⟨rfl, rfl⟩
  go_wp2_with fail
  refine (CH.out _ B2).mono ?_
  rintro e w6 ⟨rfl, b6⟩
  have B6 := B2.trans (b6.mono B2.size)
  clear b6
  go_wp2_with fail
  refine (iShowText_calls T _ (by omega)).mono ?_
  rintro e w7 ⟨rfl, b7⟩
  have B7 := B6.trans (b7.mono B6.size)
  clear b7
  go_wp2_with fail
  refine (iReadText_calls (showT T ++ tailL) _ (by have := showT_length T; rw [List.length_append]; show _ + 4 ≤ _; omega)).mono ?_
  rintro e w8 ⟨rfl, b8⟩
  have B8 := B7.trans (b8.mono B7.size)
  clear b8
  go_wp2_with fail
  refine (CR.out _ B8).mono ?_
  rintro e w9 ⟨rfl, b9⟩
  have B9 := B8.trans (b9.mono B8.size)
  clear b9
  go_wp2_with fail
  refine (iReadInt_txt R _ (by omega)).mono ?_
  rintro e w10 ⟨rfl, rfl⟩
  have hRs : (txt R).size = R.length := rfl
  rcases rdi_sound R with hz | ⟨z1, z2, z4⟩
  · have g8 : (((rdi R).2 : Int) == 0) = true := by rw [hz]; rfl
    clear hz
    go_wp2
    go_big_region
    all_goals
      go_wp2
      go_ret
      exact ⟨rfl, B9.drew⟩
  · obtain ⟨j, hj⟩ : ∃ j, (rdi R).2 = j := ⟨_, rfl⟩
    obtain ⟨v, hv⟩ : ∃ v, (rdi R).1 = v := ⟨_, rfl⟩
    rw [hj, hv]
    rw [hj] at z1 z2 z4
    rw [hv] at z4
    have HE : Hid (_ = true) := wtail_eq R j v z4
    clear z4 hj hv
    have g8 : ((j : Int) == 0) = false := by rw [beq_eq_false_iff_ne]; omega
    have hjs : j ≤ (txt R).size := z2
    have j1 : (0 : Int) ≤ (j : Int) := by omega
    have j2 : (0 : Int) < (j : Int) := by omega
    have j3 : (j : Int) ≤ (R.length : Int) := by omega
    have hE := HE.out
    go_wp2
    have jn : 0 < j := by omega
    go_region_held (fun _ => True) (trivial) ((go_at_call 11; refine (iShowInt_calls v _).mono ?_; rintro e w11 ⟨rfl, b11⟩))
    all_goals
      go_wp2
      go_ret
      exact ⟨rfl, B9.drew.trans (b11.mono B9.size)⟩

set_option maxRecDepth 100000 in
set_option maxHeartbeats 1000000 in
theorem wires_shortHigh (a : Option Addr) (cap : Nat) (L : List UInt8) (n : Int) (T : List UInt8) (hA : 100000000000000 < n) (hB : T.length ≤ 8) (w : World) (hL : L.length ≤ 1048576) (hnum : l3 L (s0 L) = n) (hT : text L (s0 L) 12 = T) (hc : CodeAt w.heap.size w a L) :
    Calls Try.prog 3 #[.slice a L.length cap] w fun e w' => e = .returned (.bool true) ∧ Below w.heap.size w w' := by
  have HC : Hid (CodeAt w.heap.size w a L) := hc
  clear hc
  have hbig : decide (1048576 < L.length) = false := by simp; omega
  obtain ⟨R, hR⟩ : ∃ R, dri L = R := ⟨_, rfl⟩
  have hTl := text_length L (s0 L) 12
  rw [hT] at hTl
  have hRl := dri_length L
  rw [hR] at hRl
  have CV : Hid (∀ w', Below w.heap.size w w' → _) := fun w' hb => drawShowInt_calls (cap := cap) (w := w') hL (code_below HC.out hb) hb.size
  have CH : Hid (∀ w', Below w.heap.size w w' → _) := fun w' hb => drawShowText_calls (cap := cap) (w := w') hL (code_below HC.out hb) hb.size
  have CR : Hid (∀ w', Below w.heap.size w w' → _) := fun w' hb => drawReadInt_calls (cap := cap) (w := w') hL (code_below HC.out hb) hb.size
  rw [hnum] at CV
  rw [hT] at CH
  rw [hR] at CR
  clear hnum hT hR
  have hTs : (txt T).size = T.length := rfl
  have hVs : (txt (showZ n)).size ≤ 7 := showZ_length n
  have hFs : (txt (showT T)).size ≤ 9 := showT_length T
  have A1 : txt (showZ n) ++ ({ data := #[116, 97, 105, 108] } : ByteArray) = txt (showZ n ++ tailL) := txt_append (showZ n) tailL
  have A2 : txt (showT T) ++ ({ data := #[116, 97, 105, 108] } : ByteArray) = txt (showT T ++ tailL) := txt_append (showT T) tailL
  have f1 := w1_out n (by omega)
  obtain ⟨f2, f2b⟩ := w2_in T hB
  obtain ⟨g4, g5⟩ := w34 T hB
  go_enter Try.func3, Try.ntmps3
  go_wp2_with fail
  refine (big_calls a L.length cap w (by omega)).mono ?_
  rintro e w0 ⟨rfl, rfl⟩
  rw [hbig]
  go_wp2_with fail
  refine (CV.out _ (Below.refl _ _)).mono ?_
  rintro e w1 ⟨rfl, B1⟩
  go_wp2_with fail
  refine (iShowInt_calls n _).mono ?_
  rintro e w2 ⟨rfl, b2⟩
  have B2 := B1.trans (b2.mono B1.size)
  clear b2
  go_wp2_with fail
  refine (iReadInt_txt (showZ n ++ tailL) _ (by have := showZ_length n; rw [List.length_append]; show _ + 4 ≤ _; omega)).mono ?_
  rintro e w3 ⟨rfl, rfl⟩
  go_wp2_with fail
  refine (CH.out _ B2).mono ?_
  rintro e w6 ⟨rfl, b6⟩
  have B6 := B2.trans (b6.mono B2.size)
  clear b6
  go_wp2_with fail
  refine (iShowText_calls T _ (by omega)).mono ?_
  rintro e w7 ⟨rfl, b7⟩
  have B7 := B6.trans (b7.mono B6.size)
  clear b7
  go_wp2_with fail
  refine (iReadText_calls (showT T ++ tailL) _ (by have := showT_length T; rw [List.length_append]; show _ + 4 ≤ _; omega)).mono ?_
  rintro e w8 ⟨rfl, b8⟩
  have B8 := B7.trans (b8.mono B7.size)
  clear b8
  go_wp2_with fail
  refine (CR.out _ B8).mono ?_
  rintro e w9 ⟨rfl, b9⟩
  have B9 := B8.trans (b9.mono B8.size)
  clear b9
  go_wp2_with fail
  refine (iReadInt_txt R _ (by omega)).mono ?_
  rintro e w10 ⟨rfl, rfl⟩
  have hRs : (txt R).size = R.length := rfl
  rcases rdi_sound R with hz | ⟨z1, z2, z4⟩
  · have g8 : (((rdi R).2 : Int) == 0) = true := by rw [hz]; rfl
    clear hz
    go_wp2
    go_big_region
    all_goals
      go_wp2
      go_ret
      exact ⟨rfl, B9.drew⟩
  · obtain ⟨j, hj⟩ : ∃ j, (rdi R).2 = j := ⟨_, rfl⟩
    obtain ⟨v, hv⟩ : ∃ v, (rdi R).1 = v := ⟨_, rfl⟩
    rw [hj, hv]
    rw [hj] at z1 z2 z4
    rw [hv] at z4
    have HE : Hid (_ = true) := wtail_eq R j v z4
    clear z4 hj hv
    have g8 : ((j : Int) == 0) = false := by rw [beq_eq_false_iff_ne]; omega
    have hjs : j ≤ (txt R).size := z2
    have j1 : (0 : Int) ≤ (j : Int) := by omega
    have j2 : (0 : Int) < (j : Int) := by omega
    have j3 : (j : Int) ≤ (R.length : Int) := by omega
    have hE := HE.out
    go_wp2
    have jn : 0 < j := by omega
    go_region_held (fun _ => True) (trivial) ((go_at_call 11; refine (iShowInt_calls v _).mono ?_; rintro e w11 ⟨rfl, b11⟩))
    all_goals
      go_wp2
      go_ret
      exact ⟨rfl, B9.drew.trans (b11.mono B9.size)⟩

set_option maxRecDepth 100000 in
set_option maxHeartbeats 1000000 in
theorem wires_longHigh (a : Option Addr) (cap : Nat) (L : List UInt8) (n : Int) (T : List UInt8) (hA : 100000000000000 < n) (hB : 8 < T.length) (w : World) (hL : L.length ≤ 1048576) (hnum : l3 L (s0 L) = n) (hT : text L (s0 L) 12 = T) (hc : CodeAt w.heap.size w a L) :
    Calls Try.prog 3 #[.slice a L.length cap] w fun e w' => e = .returned (.bool true) ∧ Below w.heap.size w w' := by
  have HC : Hid (CodeAt w.heap.size w a L) := hc
  clear hc
  have hbig : decide (1048576 < L.length) = false := by simp; omega
  obtain ⟨R, hR⟩ : ∃ R, dri L = R := ⟨_, rfl⟩
  have hTl := text_length L (s0 L) 12
  rw [hT] at hTl
  have hRl := dri_length L
  rw [hR] at hRl
  have CV : Hid (∀ w', Below w.heap.size w w' → _) := fun w' hb => drawShowInt_calls (cap := cap) (w := w') hL (code_below HC.out hb) hb.size
  have CH : Hid (∀ w', Below w.heap.size w w' → _) := fun w' hb => drawShowText_calls (cap := cap) (w := w') hL (code_below HC.out hb) hb.size
  have CR : Hid (∀ w', Below w.heap.size w w' → _) := fun w' hb => drawReadInt_calls (cap := cap) (w := w') hL (code_below HC.out hb) hb.size
  rw [hnum] at CV
  rw [hT] at CH
  rw [hR] at CR
  clear hnum hT hR
  have hTs : (txt T).size = T.length := rfl
  have hVs : (txt (showZ n)).size ≤ 7 := showZ_length n
  have hFs : (txt (showT T)).size ≤ 9 := showT_length T
  have A1 : txt (showZ n) ++ ({ data := #[116, 97, 105, 108] } : ByteArray) = txt (showZ n ++ tailL) := txt_append (showZ n) tailL
  have A2 : txt (showT T) ++ ({ data := #[116, 97, 105, 108] } : ByteArray) = txt (showT T ++ tailL) := txt_append (showT T) tailL
  have f1 := w1_out n (by omega)
  have f2 := w2_out T hB
  go_enter Try.func3, Try.ntmps3
  go_wp2_with fail
  refine (big_calls a L.length cap w (by omega)).mono ?_
  rintro e w0 ⟨rfl, rfl⟩
  rw [hbig]
  go_wp2_with fail
  refine (CV.out _ (Below.refl _ _)).mono ?_
  rintro e w1 ⟨rfl, B1⟩
  go_wp2_with fail
  refine (iShowInt_calls n _).mono ?_
  rintro e w2 ⟨rfl, b2⟩
  have B2 := B1.trans (b2.mono B1.size)
  clear b2
  go_wp2_with fail
  refine (iReadInt_txt (showZ n ++ tailL) _ (by have := showZ_length n; rw [List.length_append]; show _ + 4 ≤ _; omega)).mono ?_
  rintro e w3 ⟨rfl, rfl⟩
  go_wp2_with fail
  refine (CH.out _ B2).mono ?_
  rintro e w6 ⟨rfl, b6⟩
  have B6 := B2.trans (b6.mono B2.size)
  clear b6
  go_wp2_with fail
  refine (iShowText_calls T _ (by omega)).mono ?_
  rintro e w7 ⟨rfl, b7⟩
  have B7 := B6.trans (b7.mono B6.size)
  clear b7
  go_wp2_with fail
  refine (iReadText_calls (showT T ++ tailL) _ (by have := showT_length T; rw [List.length_append]; show _ + 4 ≤ _; omega)).mono ?_
  rintro e w8 ⟨rfl, b8⟩
  have B8 := B7.trans (b8.mono B7.size)
  clear b8
  go_wp2_with fail
  refine (CR.out _ B8).mono ?_
  rintro e w9 ⟨rfl, b9⟩
  have B9 := B8.trans (b9.mono B8.size)
  clear b9
  go_wp2_with fail
  refine (iReadInt_txt R _ (by omega)).mono ?_
  rintro e w10 ⟨rfl, rfl⟩
  have hRs : (txt R).size = R.length := rfl
  rcases rdi_sound R with hz | ⟨z1, z2, z4⟩
  · have g8 : (((rdi R).2 : Int) == 0) = true := by rw [hz]; rfl
    clear hz
    go_wp2
    go_big_region
    all_goals
      go_wp2
      go_ret
      exact ⟨rfl, B9.drew⟩
  · obtain ⟨j, hj⟩ : ∃ j, (rdi R).2 = j := ⟨_, rfl⟩
    obtain ⟨v, hv⟩ : ∃ v, (rdi R).1 = v := ⟨_, rfl⟩
    rw [hj, hv]
    rw [hj] at z1 z2 z4
    rw [hv] at z4
    have HE : Hid (_ = true) := wtail_eq R j v z4
    clear z4 hj hv
    have g8 : ((j : Int) == 0) = false := by rw [beq_eq_false_iff_ne]; omega
    have hjs : j ≤ (txt R).size := z2
    have j1 : (0 : Int) ≤ (j : Int) := by omega
    have j2 : (0 : Int) < (j : Int) := by omega
    have j3 : (j : Int) ≤ (R.length : Int) := by omega
    have hE := HE.out
    go_wp2
    have jn : 0 < j := by omega
    go_region_held (fun _ => True) (trivial) ((go_at_call 11; refine (iShowInt_calls v _).mono ?_; rintro e w11 ⟨rfl, b11⟩))
    all_goals
      go_wp2
      go_ret
      exact ⟨rfl, B9.drew.trans (b11.mono B9.size)⟩

end Go.Proofs.Ytmpbmagbbnlhaaa
