/- The laws' marks on rows of texts: markText, markStringS, heldStringS. -/
import Derived.Test.YtcjpepdagnifiaaDoorStrsWalks
import Derived.Test.YtcjpepdagnifiaaDoorDecMath
import Derived.Test.YtcjpepdagnifiaaDoorRfWalks
import Derived.WalkKit
import Derived.ProofKit
import Derived.Deep.RegionHeld
namespace Go.Proofs.YtcjpepdagnifiaaDoor
open Go.RowKit
set_option linter.unusedVariables false

/-- What markText makes of a number from 1 on. -/
def mtxt (u : Nat) : List UInt8 := [109] ++ Lib.decDigits u
theorem mtxt_len (u : Nat) (h : u ≤ 9223372036854775807) : (mtxt u).length ≤ 22 := by
  have := decLeft_len u 0 (Lib.decDigits u) (.inl ⟨rfl, rfl⟩) (by omega)
  unfold mtxt
  rw [List.length_append, List.length_singleton]
  omega

theorem markText_calls (u : Nat) (w : World) (h0 : 0 < u) (h1 : u ≤ 9223372036854775807) :
    Calls Tryd.prog 63 #[.int .i64 (u : Int)] w fun e w' => e = .returned (.string (txt (mtxt u))) ∧ Below w.heap.size w w' := by
  have g1 : decide ((u : Int) ≤ 0) = false := by simp; omega
  go_enter Tryd.func63, Tryd.ntmps63
  go_wp2
  go_loopw [0, 3] (fun x o wr => ∃ (m : Nat) (P : List UInt8), m ≤ 9223372036854775807 ∧ x = .int .i64 (m : Int) ∧ o = .string (txt P) ∧ Hid (decLeft u m P) ∧ Below w.heap.size w wr) (fun x _ _ => (intOf x).toNat)
  case atStart => exact ⟨u, [], h1, rfl, rfl, decLeft_start u h0, Below.refl _ _⟩
  case round =>
    obtain ⟨m, P, hm, rfl, rfl, HD, hb⟩ := hrel
    have hlen : (txt P).size ≤ 21 := decLeft_len u m P HD.out (by omega)
    by_cases hp : 0 < m
    · have hcv := fun W => conv_one (P := Tryd.prog) 96 9 5 Tryd.underlying96 Tryd.underlying5 Tryd.underlying9 W (48 + (m : Int) % 10) (by omega) (by omega)
      simp only [digB_nat] at hcv
      have hone : (txt [digB m]).size ≤ 1 := by rw [txt_size]; exact Nat.le_refl 1
      go_wp2
      go_roundw
      case rel => exact ⟨m / 10, digB m :: P, by omega, by go_num, by rw [txt_append]; rfl, decLeft_step u m P HD.out hp, hb.alloc hb.size _⟩
      case measure => simp [intOf]; omega
    · obtain rfl : m = 0 := by omega
      have HE : Hid (_ = _) := decLeft_end u P HD.out
      have h45 : (⟨#[109]⟩ : ByteArray).size ≤ 1 := Nat.le_refl 1
      go_wp2
      go_ret
      exact ⟨ret_str (by rw [HE.out]; exact txt_append [109] _), hb⟩

/-- The marks k, k + 1, .. -/
def mks (k : Nat) : Nat → List (List UInt8)
  | 0 => []
  | n + 1 => mks k n ++ [mtxt (k + n)]
theorem mks_length (k : Nat) : ∀ n, (mks k n).length = n
  | 0 => rfl
  | n + 1 => by rw [mks, List.length_append, mks_length k n]; rfl
theorem mks_at (k : Nat) : ∀ (n j : Nat) (h : j < (mks k n).length), (mks k n)[j] = mtxt (k + j) := by
  intro n
  induction n with
  | zero => intro j h; simp [mks] at h
  | succ n ih =>
    intro j h
    rw [mks_length] at h
    simp only [mks]
    by_cases hj : j < n
    · rw [List.getElem_append_left (by rw [mks_length]; exact hj)]
      exact ih j (by rw [mks_length]; exact hj)
    · obtain rfl : j = n := by omega
      rw [List.getElem_append_right (by rw [mks_length]; omega)]
      simp [mks_length]
def mked (k : Nat) (zs : List (List UInt8)) (j : Nat) : List (List UInt8) := mks k j ++ zs.drop j
theorem mked_length (k : Nat) (zs : List (List UInt8)) (j : Nat) (h : j ≤ zs.length) : (mked k zs j).length = zs.length := by
  unfold mked; rw [List.length_append, mks_length, List.length_drop]; omega
theorem mked_succ (k : Nat) (zs : List (List UInt8)) (j : Nat) (h : j < zs.length) : (mked k zs j).set j (mtxt (k + j)) = mked k zs (j + 1) := by
  unfold mked
  rw [List.set_append_right _ _ (by rw [mks_length]; omega), mks_length, Nat.sub_self, List.drop_eq_getElem_cons h, List.set_cons_zero]
  simp [mks]
theorem mked_all (k : Nat) (zs : List (List UInt8)) : mked k zs zs.length = mks k zs.length := by unfold mked; simp
theorem mked_zero (k : Nat) (zs : List (List UInt8)) : mked k zs 0 = zs := by simp [mked, mks]

set_option maxHeartbeats 1000000 in
theorem markStringS_calls (w : World) (B : Nat) (v : Value) (zs : List (List UInt8)) (k : Nat) (h : ownS w B v zs) (hB : B ≤ w.heap.size) (hz : zs.length ≤ 16777216) (h0 : 0 < k) (h1 : k ≤ 1000000000000) :
    Calls Tryd.prog 36 #[v, .int .i64 (k : Int)] w fun e w' => e = .returned (.int .i64 ((k : Int) + (zs.length : Int))) ∧ ownS w' B v (mks k zs.length) ∧ Below B w w' := by
  obtain ⟨n, hn⟩ : ∃ n, zs.length = n := ⟨_, rfl⟩
  have Hn : Hid (zs.length = n) := hn
  rw [hn] at hz ⊢
  obtain ⟨a, cap, hv, -⟩ := ownS_read h
  have HO : Hid (ownS w B v (mked k zs 0)) := by rw [mked_zero]; exact h
  have HM : Hid (mked k zs n = mks k n) := by show _ = _; have := mked_all k zs; rw [hn] at this; exact this
  rw [hn] at hv
  subst hv
  clear hn h
  go_enter Tryd.func36, Tryd.ntmps36
  go_wp2
  go_loopw [1, 5] (fun x i wr => ∃ j : Nat, j ≤ n ∧ i = .int .i64 j ∧ x = .int .i64 ((k : Int) + (j : Int)) ∧ Hid (ownS wr B (.slice a n cap) (mked k zs j)) ∧ Below B w wr) (fun _ i _ => n - (intOf i).toNat)
  case atStart => exact ⟨0, by omega, rfl, by simp, HO.out, Below.refl _ _⟩
  case round =>
    obtain ⟨j, hj, rfl, rfl, HW, hb⟩ := hrel
    by_cases hlt : j < n
    · have C : Hid (∀ X, _) := fun X => markText_calls (k + j) X (by omega) (by omega)
      have e1 : ((k + j : Nat) : Int) = (k : Int) + (j : Int) := by omega
      rw [e1] at C
      clear e1
      have hbs := hb.size
      go_wp2_with fail
      refine (C.out _).mono ?_
      rintro e w1 ⟨rfl, b1⟩
      have hml : (mked k zs j).length = n := by rw [mked_length k zs j (by have := Hn.out; omega), Hn.out]
      have HW1 : Hid (ownS w1 B (.slice a n cap) (mked k zs j)) := ownS_later HW.out b1
      have B1 := hb.trans (b1.mono (by omega))
      rcases ownS_form HW1.out with ⟨he, -⟩ | ⟨g, cap', he, hBg, -, -, -, HC⟩
      · simp only [Value.slice.injEq] at he
        omega
      · simp only [Value.slice.injEq] at he
        obtain ⟨rfl, -, rfl⟩ := he
        obtain ⟨hcell, hfr⟩ := HC.out j (by rw [hml]; exact hlt)
        have HS := ownS_set HW1.out hml.symm j (mtxt (k + j))
        rw [mked_succ k zs j (by have := Hn.out; omega)] at HS
        have HS2 : Hid (ownS _ B _ _) := HS
        generalize (mked k zs j)[j] = z at hcell
        generalize mtxt (k + j) = T at *
        clear HS HC hml
        go_wp2
        go_roundw
        case rel => exact ⟨j + 1, by omega, by go_num, by go_num, HS2, B1.setCell (p := ⟨g, j, none⟩) hBg _⟩
        case measure => simp [intOf]; omega
    · obtain rfl : j = n := by omega
      go_wp2
      go_ret
      exact ⟨rfl, HM.out ▸ HW.out, hb⟩

theorem undrew {n : Nat} {w w' : World} (h : Below n w.drew w') : Below n w w' := ⟨h.os, h.tape, h.output, h.size, h.block⟩

set_option maxHeartbeats 1000000 in
theorem heldStringS_calls (w : World) (B : Nat) (v : Value) (n : Nat) (k : Nat) (h : ownS w B v (mks k n)) (hB : B ≤ w.heap.size) (hz : n ≤ 16777216) (h0 : 0 < k) (h1 : k ≤ 1000000000000) :
    Calls Tryd.prog 39 #[v, .int .i64 (k : Int)] w fun e w' => e = .returned (.int .i64 ((k : Int) + (n : Int))) ∧ Below w.heap.size w w' := by
  obtain ⟨a, cap, rfl, HA⟩ := rdS_own h
  have Hn : Hid ((mks k n).length = n) := mks_length k n
  have HK : Hid (∀ (j : Nat) (h : j < (mks k n).length), (mks k n)[j] = mtxt (k + j)) := mks_at k n
  clear h
  rw [Hn.out]
  go_enter Tryd.func39, Tryd.ntmps39
  go_wp2
  go_loopw [1, 5] (fun x i wr => ∃ j : Nat, j ≤ n ∧ i = .int .i64 j ∧ x = .int .i64 ((k : Int) + (j : Int)) ∧ Below w.heap.size w wr) (fun _ i _ => n - (intOf i).toNat)
  case atStart => exact ⟨0, by omega, rfl, by simp, Below.refl _ _⟩
  case round =>
    obtain ⟨j, hj, rfl, rfl, hb⟩ := hrel
    by_cases hlt : j < n
    · have hj2 : j < (mks k n).length := by have := Hn.out; omega
      have HR : Hid (RdS wr a (mks k n)) := rdS_later HA.out hb
      obtain ⟨g, off, rfl, hg, hc1⟩ := HR.out j hj2
      rw [HK.out j hj2] at hc1
      have C : Hid (∀ X, _) := fun X => markText_calls (k + j) X (by omega) (by omega)
      have e1 : ((k + j : Nat) : Int) = (k : Int) + (j : Int) := by omega
      rw [e1] at C
      clear e1
      have hbs := hb.size
      have HCL : Hid (∀ X, Below wr.heap.size wr X → X.cell? ⟨g, off + j, none⟩ = some (.string (txt (mtxt (k + j))))) := fun X hX => (hX.cell (p := ⟨g, off + j, none⟩) hg).trans hc1
      generalize mtxt (k + j) = T at *
      go_wp2
      go_region_with (go_at_call 63; refine (C.out _).mono ?_; rintro e w1 ⟨rfl, b1⟩; have hc2 := HCL.out w1 (undrew b1))
      all_goals
        go_wp2
        go_roundw
        case rel => exact ⟨j + 1, by omega, by go_num, by go_num, hb.trans ((undrew b1).mono hbs)⟩
        case measure => simp [intOf]; omega
    · obtain rfl : j = n := by omega
      go_wp2
      go_ret
      exact ⟨rfl, hb⟩

end Go.Proofs.YtcjpepdagnifiaaDoor
