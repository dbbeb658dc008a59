/- What ShowInt and ReadInt answer, the specification's and the program's. -/
import Derived.Test.YtcjpepdagnifiaaDoorWireWalks
import Derived.Deep.RegionWith
import Derived.Deep.RegionHeld
namespace Go.Proofs.YtcjpepdagnifiaaDoor
open Go.RowKit
set_option linter.unusedVariables false

theorem sShowInt_calls (n : Int) (w : World) :
    Calls Tryd.prog 54 #[.int .i64 n] w fun e w' => e = .returned (.string (txt (showZ n))) ∧ Below w.heap.size w w' := by
  have hb := zig_bd n
  have HS : Hid (showZ n = varZ (zigZ n)) := rfl
  by_cases h : zigZ n < 0
  · have HE : Hid (showZ n = []) := by show _ = _; unfold showZ; rw [varZ_out _ (by omega)]
    go_enter Tryd.func54, Tryd.ntmps54
    go_wp2_with (go_at_call 76; refine (sZig_calls n _).mono ?_; rintro e w' ⟨rfl, rfl⟩)
    go_ret
    exact ⟨ret_str (by rw [HE.out]; rfl), Below.refl _ _⟩
  · have h0 : 0 ≤ zigZ n := by omega
    go_enter Tryd.func54, Tryd.ntmps54
    go_wp2_with fail
    refine (sZig_calls n _).mono ?_
    rintro e w1 ⟨rfl, rfl⟩
    go_wp2_with fail
    refine (sVar_calls (zigZ n) _).mono ?_
    rintro e w2 ⟨rfl, hb2⟩
    go_wp2
    go_ret
    exact ⟨ret_str (by rw [HS.out]), hb2⟩

theorem iShowInt_calls (n : Int) (w : World) :
    Calls Tryd.prog 108 #[.int .i64 n] w fun e w' => e = .returned (.string (txt (showZ n))) ∧ Below w.heap.size w w' := by
  have hb := zig_bd n
  have HS : Hid (showZ n = varZ (zigZ n)) := rfl
  go_enter Tryd.func108, Tryd.ntmps108
  go_wp2_with fail
  refine (iZig_calls n _).mono ?_
  rintro e w1 ⟨rfl, rfl⟩
  go_wp2_with fail
  refine (iVar_calls (zigZ n) _).mono ?_
  rintro e w2 ⟨rfl, hb2⟩
  go_wp2
  go_ret
  exact ⟨ret_str (by rw [HS.out]), hb2⟩

theorem ext_take (s : ByteArray) (k : Nat) : (s.extract 0 k).toList = s.data.toList.take k := by
  have h := ByteArray.extract_mk s.data.toList 0 k
  rw [show (ByteArray.mk s.data.toList.toArray) = s from rfl] at h
  rw [h, ByteArray.toList_mk]; simp

theorem iReadInt_calls (s : ByteArray) (w : World) (hs : s.size ≤ 1048576) :
    Calls Tryd.prog 94 #[.string s] w fun e w' => e = .returned (.tuple #[.int .i64 (rdi s.data.toList).1, .int .i64 ((rdi s.data.toList).2 : Int)]) ∧ w' = w := by
  obtain ⟨hc, hk⟩ := rdv_le s.data.toList
  have hcz : -9223372036854775808 ≤ ((rdv s.data.toList).1 : Int) ∧ ((rdv s.data.toList).1 : Int) ≤ 9223372036854775807 := by omega
  by_cases hz : zigZ (zagZ ((rdv s.data.toList).1 : Int)) = ((rdv s.data.toList).1 : Int)
  · have HR : Hid (_ = _) := rdi_yes s.data.toList hz
    go_enter Tryd.func94, Tryd.ntmps94
    go_wp2_with fail
    refine (iReadVar_calls s _ hs).mono ?_
    rintro e w1 ⟨rfl, rfl⟩
    go_wp2_with fail
    refine (iZag_calls _ _ hcz).mono ?_
    rintro e w2 ⟨rfl, rfl⟩
    go_wp2_with fail
    refine (iZig_calls _ _).mono ?_
    rintro e w3 ⟨rfl, rfl⟩
    go_wp2
    go_ret2
    exact ⟨ret_ii (by rw [HR.out]) (by rw [HR.out]), rfl⟩
  · have HR : Hid (_ = _) := rdi_no s.data.toList hz
    have hz2 : (zigZ (zagZ ((rdv s.data.toList).1 : Int)) != ((rdv s.data.toList).1 : Int)) = true := by rw [bne_iff_ne]; exact hz
    go_enter Tryd.func94, Tryd.ntmps94
    go_wp2_with fail
    refine (iReadVar_calls s _ hs).mono ?_
    rintro e w1 ⟨rfl, rfl⟩
    go_wp2_with fail
    refine (iZag_calls _ _ hcz).mono ?_
    rintro e w2 ⟨rfl, rfl⟩
    go_wp2_with fail
    refine (iZig_calls _ _).mono ?_
    rintro e w3 ⟨rfl, rfl⟩
    go_wp2
    go_ret2
    exact ⟨ret_ii (by rw [HR.out]) (by rw [HR.out]; rfl), rfl⟩

theorem sReadVar_at (s : ByteArray) (c k : Nat) (w : World) (hs : s.size ≤ 1048576) (hv : rdv s.data.toList = (c, k)) :
    Calls Tryd.prog 27 #[.string s] w fun e w' => e = .returned (.tuple #[.int .i64 (c : Int), .int .i64 (k : Int)]) ∧ Below w.heap.size w w' := by
  have h := sReadVar_calls s w hs
  rw [hv] at h
  exact h

set_option maxHeartbeats 1000000 in
theorem sReadInt_nought (s : ByteArray) (c k : Nat) (w : World) (hs : s.size ≤ 1048576) (hv : rdv s.data.toList = (c, k)) (h0 : k = 0) :
    Calls Tryd.prog 47 #[.string s] w fun e w' => e = .returned (.tuple #[.int .i64 0, .int .i64 0]) ∧ Below w.heap.size w w' := by
  have h0' : ((k : Int) == 0) = true := by rw [h0]; rfl
  clear h0
  go_enter Tryd.func47, Tryd.ntmps47
  go_wp2_with fail
  refine (sReadVar_at s c k _ hs hv).mono ?_
  rintro e w1 ⟨rfl, hb1⟩
  clear hv
  go_wp2
  go_big_region
  all_goals
    go_wp2
    go_ret2
    exact ⟨rfl, hb1.drew⟩

set_option maxHeartbeats 1000000 in
theorem sReadInt_yes (s : ByteArray) (c k : Nat) (z : Int) (w : World) (hs : s.size ≤ 1048576) (hv : rdv s.data.toList = (c, k)) (h0 : 1 ≤ k) (hk : k ≤ s.size) (hc : c ≤ 562949953421311) (hz : zagZ (c : Int) = z)
    (HT : ((txt (showZ z)).toList == (s.extract 0 k).toList) = true) :
    Calls Tryd.prog 47 #[.string s] w fun e w' => e = .returned (.tuple #[.int .i64 z, .int .i64 (k : Int)]) ∧ Below w.heap.size w w' := by
  have h0' : ((k : Int) == 0) = false := by rw [beq_eq_false_iff_ne]; omega
  have hk1 : (0 : Int) ≤ (k : Int) := by omega
  have hk2 : (k : Int) ≤ (s.size : Int) := by omega
  have CZ : Hid (∀ X, _) := fun X => sZag_calls (c : Int) X (by omega)
  rw [hz] at CZ
  go_enter Tryd.func47, Tryd.ntmps47
  go_wp2_with fail
  refine (sReadVar_at s c k _ hs hv).mono ?_
  rintro e w1 ⟨rfl, hb1⟩
  clear hv
  go_wp2
  go_region_held (fun _ => True) (trivial) (first | (go_at_call 73; refine (CZ.out _).mono ?_; rintro e w2 ⟨rfl, rfl⟩) | (go_at_call 54; refine (sShowInt_calls z _).mono ?_; rintro e w3 ⟨rfl, hb3⟩))
  all_goals
    go_wp2_with fail
    refine (CZ.out _).mono ?_
    rintro e w4 ⟨rfl, rfl⟩
    go_wp2
    go_ret2
    exact ⟨rfl, hb1.drew.trans (hb3.mono hb1.size)⟩

set_option maxHeartbeats 1000000 in
theorem sReadInt_no (s : ByteArray) (c k : Nat) (z : Int) (w : World) (hs : s.size ≤ 1048576) (hv : rdv s.data.toList = (c, k)) (h0 : 1 ≤ k) (hk : k ≤ s.size) (hc : c ≤ 562949953421311) (hz : zagZ (c : Int) = z)
    (HT : ((txt (showZ z)).toList == (s.extract 0 k).toList) = false) :
    Calls Tryd.prog 47 #[.string s] w fun e w' => e = .returned (.tuple #[.int .i64 0, .int .i64 0]) ∧ Below w.heap.size w w' := by
  have h0' : ((k : Int) == 0) = false := by rw [beq_eq_false_iff_ne]; omega
  have hk1 : (0 : Int) ≤ (k : Int) := by omega
  have hk2 : (k : Int) ≤ (s.size : Int) := by omega
  have CZ : Hid (∀ X, _) := fun X => sZag_calls (c : Int) X (by omega)
  rw [hz] at CZ
  go_enter Tryd.func47, Tryd.ntmps47
  go_wp2_with fail
  refine (sReadVar_at s c k _ hs hv).mono ?_
  rintro e w1 ⟨rfl, hb1⟩
  clear hv
  go_wp2
  go_region_held (fun _ => True) (trivial) (first | (go_at_call 73; refine (CZ.out _).mono ?_; rintro e w2 ⟨rfl, rfl⟩) | (go_at_call 54; refine (sShowInt_calls z _).mono ?_; rintro e w3 ⟨rfl, hb3⟩))
  all_goals
    go_wp2
    go_ret2
    exact ⟨rfl, hb1.drew.trans (hb3.mono hb1.size)⟩

theorem sReadInt_calls (s : ByteArray) (w : World) (hs : s.size ≤ 1048576) :
    Calls Tryd.prog 47 #[.string s] w fun e w' => e = .returned (.tuple #[.int .i64 (rdi s.data.toList).1, .int .i64 ((rdi s.data.toList).2 : Int)]) ∧ Below w.heap.size w w' := by
  obtain ⟨hc, hk⟩ := rdv_le s.data.toList
  rw [Array.length_toList] at hk
  have hk : (rdv s.data.toList).2 ≤ s.size := hk
  by_cases h0 : (rdv s.data.toList).2 = 0
  · rw [rdi_nought s.data.toList h0]
    exact sReadInt_nought s _ _ w hs rfl h0
  · have HT := show_test s.data.toList h0
    rw [← ext_take s, show showZ (zagZ ((rdv s.data.toList).1 : Int)) = (txt (showZ (zagZ ((rdv s.data.toList).1 : Int)))).toList from (by unfold txt; rw [ByteArray.toList_mk])] at HT
    by_cases hz : zigZ (zagZ ((rdv s.data.toList).1 : Int)) = ((rdv s.data.toList).1 : Int)
    · rw [rdi_yes s.data.toList hz]
      rw [decide_eq_true hz] at HT
      exact sReadInt_yes s _ _ _ w hs rfl (Nat.pos_of_ne_zero h0) hk hc rfl HT
    · rw [rdi_no s.data.toList hz]
      rw [decide_eq_false hz] at HT
      exact sReadInt_no s _ _ _ w hs rfl (Nat.pos_of_ne_zero h0) hk hc rfl HT

end Go.Proofs.YtcjpepdagnifiaaDoor
