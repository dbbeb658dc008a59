/- What impl.within, impl.timesIn, impl.InEdges and, at numbers and texts, slices.Index, Contains and Equal answer. -/
import Derived.Test.YtjhdnachbahbmaaISlotWalks
import Derived.Test.YtjhdnachbahbmaaSEdgesWalks
import Derived.Test.YtjhdnachbahbmaaEqWalks
namespace Go.Proofs.Ytjhdnachbahbmaa
open Go.RowKit
set_option linter.unusedVariables false

theorem within_yes (x lo hi : Int) (w : World) (h1 : lo ≤ x) (h2 : x ≤ hi) :
    Calls Try.prog 33 #[.int .i64 x, .int .i64 lo, .int .i64 hi] w fun e w' => e = .returned (.bool true) ∧ w' = w := by
  go_enter Try.func33, Try.ntmps33
  go_wp2
  go_ret
  exact ⟨rfl, rfl⟩
theorem within_no (x lo hi : Int) (w : World) (h : x < lo ∨ hi < x) :
    Calls Try.prog 33 #[.int .i64 x, .int .i64 lo, .int .i64 hi] w fun e w' => e = .returned (.bool false) ∧ w' = w := by
  by_cases h1 : x < lo
  · clear h
    go_enter Try.func33, Try.ntmps33
    go_wp2
    go_ret
    exact ⟨rfl, rfl⟩
  · have h2 : hi < x := by omega
    have h3 : lo ≤ x := by omega
    clear h
    go_enter Try.func33, Try.ntmps33
    go_wp2
    go_ret
    exact ⟨ret_bb (decide_eq_false (by omega)), rfl⟩

/-- Where a thing stands first in a list; -1 where it doesn't. -/
def idxL {α : Type} [DecidableEq α] (x : α) : List α → Int → Int
  | [], _ => -1
  | y :: r, i => if x = y then i else idxL x r (i + 1)
theorem idxL_step {α : Type} [DecidableEq α] (x : α) (zs : List α) (j : Nat) (h : j < zs.length) : idxL x (zs.drop j) (j : Int) = if x = zs[j] then (j : Int) else idxL x (zs.drop (j + 1)) ((j + 1 : Nat) : Int) := by
  rw [List.drop_eq_getElem_cons h]; simp [idxL]
theorem idxL_end {α : Type} [DecidableEq α] (x : α) (zs : List α) (i : Int) : idxL x (zs.drop zs.length) i = -1 := by rw [List.drop_length]; rfl
theorem idxL_mem {α : Type} [DecidableEq α] (x : α) (zs : List α) : ∀ i, 0 ≤ i → (0 ≤ idxL x zs i ↔ x ∈ zs) := by
  induction zs with
  | nil => intro i _; simp [idxL]
  | cons y r ih =>
    intro i hi
    unfold idxL
    by_cases e : x = y
    · rw [if_pos e]; simp [e, hi]
    · rw [if_neg e, ih (i + 1) (by omega)]; simp [e]

theorem idxInt_calls (w : World) (a : Option Addr) (cap : Nat) (zs : List Int) (x : Int) (h : RdI w a zs) (hn : zs.length ≤ 9223372036854775806) :
    Calls Try.prog 61 #[.slice a zs.length cap, .int .i64 x] w fun e w' => e = .returned (.int .i64 (idxL x zs 0)) ∧ w' = w := by
  have HA : Hid (RdI w a zs) := h
  have HD : Hid (∀ (j : Nat) (h : j < zs.length), idxL x (zs.drop j) (j : Int) = _) := fun j hj => idxL_step x zs j hj
  have H0 : Hid (idxL x zs 0 = idxL x (zs.drop 0) ((0 : Nat) : Int)) := rfl
  have HE : Hid (idxL x (zs.drop zs.length) (zs.length : Int) = -1) := idxL_end x zs _
  obtain ⟨n, hnn⟩ : ∃ n, zs.length = n := ⟨_, rfl⟩
  have Hn : Hid (zs.length = n) := hnn
  rw [hnn] at hn HE ⊢
  generalize idxL x zs 0 = b at *
  clear h hnn
  go_enter Try.func61, Try.ntmps61
  go_wp2
  go_loop [8] (fun i => ∃ j : Nat, j ≤ n ∧ i = .int .i64 j ∧ Hid (b = idxL x (zs.drop j) (j : Int))) (fun i => n - (intOf i).toNat)
  case atStart => exact ⟨0, by omega, rfl, H0⟩
  case round =>
    obtain ⟨j, hj, rfl, HJ⟩ := hrel
    by_cases hlt : j < n
    · have hj2 : j < zs.length := by have := Hn.out; omega
      obtain ⟨g, off, rfl, -, hc⟩ := HA.out j hj2
      have HD2 : Hid (_ = _) := HD.out j hj2
      generalize zs[j] = z at *
      by_cases he : x = z
      · have HR : Hid (b = (j : Int)) := by show _ = _; rw [HJ.out, HD2.out, if_pos he]
        subst he
        go_wp2
        go_ret
        exact ⟨ret_zz HR.out.symm, rfl⟩
      · have HR : Hid (b = idxL x (zs.drop (j + 1)) ((j + 1 : Nat) : Int)) := by show _ = _; rw [HJ.out, HD2.out, if_neg he]
        have hq : (x == z) = false := by rw [beq_eq_false_iff_ne]; exact he
        go_wp2
        go_round
        case rel => exact ⟨j + 1, by omega, by go_num, HR⟩
        case measure => simp [intOf]; omega
    · obtain rfl : j = n := by omega
      have HR : Hid (b = -1) := by show _ = _; rw [HJ.out, HE.out]
      go_wp2
      go_ret
      exact ⟨ret_zz HR.out.symm, rfl⟩

theorem hasInt_calls (w : World) (a : Option Addr) (cap : Nat) (zs : List Int) (x : Int) (h : RdI w a zs) (hn : zs.length ≤ 9223372036854775806) :
    Calls Try.prog 52 #[.slice a zs.length cap, .int .i64 x] w fun e w' => e = .returned (.bool (decide (x ∈ zs))) ∧ w' = w := by
  have C : Hid (∀ u : Unit, _) := fun (_ : Unit) => idxInt_calls w a cap zs x h hn
  have hm := idxL_mem x zs 0 (Int.le_refl _)
  have HE : Hid (decide (x ∈ zs) = decide (0 ≤ idxL x zs 0)) := by show _ = _; rw [decide_eq_decide]; exact hm.symm
  rw [HE.out]
  generalize idxL x zs 0 = z at *
  clear h hm HE
  go_enter Try.func52, Try.ntmps52
  go_wp2_with fail
  refine (C.out ()).mono ?_
  rintro e w1 ⟨rfl, hw1⟩
  subst hw1
  go_wp2
  go_ret
  exact ⟨rfl, rfl⟩

theorem idxStr_calls (w : World) (a : Option Addr) (cap : Nat) (zs : List (List UInt8)) (x : List UInt8) (h : RdS w a zs) (hn : zs.length ≤ 9223372036854775806) :
    Calls Try.prog 41 #[.slice a zs.length cap, .string (txt x)] w fun e w' => e = .returned (.int .i64 (idxL x zs 0)) ∧ w' = w := by
  have HA : Hid (RdS w a zs) := h
  have HD : Hid (∀ (j : Nat) (h : j < zs.length), idxL x (zs.drop j) (j : Int) = _) := fun j hj => idxL_step x zs j hj
  have H0 : Hid (idxL x zs 0 = idxL x (zs.drop 0) ((0 : Nat) : Int)) := rfl
  have HE : Hid (idxL x (zs.drop zs.length) (zs.length : Int) = -1) := idxL_end x zs _
  obtain ⟨n, hnn⟩ : ∃ n, zs.length = n := ⟨_, rfl⟩
  have Hn : Hid (zs.length = n) := hnn
  rw [hnn] at hn HE ⊢
  generalize idxL x zs 0 = b at *
  clear h hnn
  go_enter Try.func41, Try.ntmps41
  go_wp2
  go_loop [8] (fun i => ∃ j : Nat, j ≤ n ∧ i = .int .i64 j ∧ Hid (b = idxL x (zs.drop j) (j : Int))) (fun i => n - (intOf i).toNat)
  case atStart => exact ⟨0, by omega, rfl, H0⟩
  case round =>
    obtain ⟨j, hj, rfl, HJ⟩ := hrel
    by_cases hlt : j < n
    · have hj2 : j < zs.length := by have := Hn.out; omega
      obtain ⟨g, off, rfl, -, hc⟩ := HA.out j hj2
      have HD2 : Hid (_ = _) := HD.out j hj2
      generalize zs[j] = z at *
      by_cases he : x = z
      · have HR : Hid (b = (j : Int)) := by show _ = _; rw [HJ.out, HD2.out, if_pos he]
        subst he
        go_wp2
        go_ret
        exact ⟨ret_zz HR.out.symm, rfl⟩
      · have HR : Hid (b = idxL x (zs.drop (j + 1)) ((j + 1 : Nat) : Int)) := by show _ = _; rw [HJ.out, HD2.out, if_neg he]
        have hq : ((txt x).toList == (txt z).toList) = false := txt_beq_ne' he
        go_wp2
        go_round
        case rel => exact ⟨j + 1, by omega, by go_num, HR⟩
        case measure => simp [intOf]; omega
    · obtain rfl : j = n := by omega
      have HR : Hid (b = -1) := by show _ = _; rw [HJ.out, HE.out]
      go_wp2
      go_ret
      exact ⟨ret_zz HR.out.symm, rfl⟩

theorem hasStr_calls (w : World) (a : Option Addr) (cap : Nat) (zs : List (List UInt8)) (x : List UInt8) (h : RdS w a zs) (hn : zs.length ≤ 9223372036854775806) :
    Calls Try.prog 51 #[.slice a zs.length cap, .string (txt x)] w fun e w' => e = .returned (.bool (decide (x ∈ zs))) ∧ w' = w := by
  have C : Hid (∀ u : Unit, _) := fun (_ : Unit) => idxStr_calls w a cap zs x h hn
  have hm := idxL_mem x zs 0 (Int.le_refl _)
  have HE : Hid (decide (x ∈ zs) = decide (0 ≤ idxL x zs 0)) := by show _ = _; rw [decide_eq_decide]; exact hm.symm
  rw [HE.out]
  generalize idxL x zs 0 = z at *
  clear h hm HE
  go_enter Try.func51, Try.ntmps51
  go_wp2_with fail
  refine (C.out ()).mono ?_
  rintro e w1 ⟨rfl, hw1⟩
  subst hw1
  go_wp2
  go_ret
  exact ⟨rfl, rfl⟩

theorem timesIn_calls (w : World) (a : Option Addr) (cap : Nat) (zs : List Int) (x : Int) (h : RdI w a zs) (hn : zs.length ≤ 1048576) :
    Calls Try.prog 69 #[.slice a zs.length cap, .int .i64 x] w fun e w' => e = .returned (.int .i64 ((zs.count x : Nat) : Int)) ∧ w' = w := by
  have HA : Hid (RdI w a zs) := h
  have HD : Hid (∀ (j : Nat) (h : j < zs.length), (zs.take (j + 1)).count x = _) := fun j hj => count_succ x zs j hj
  have HL : Hid (∀ k, (zs.take k).count x ≤ 1048576) := fun k => Nat.le_trans List.count_le_length (by rw [List.length_take]; omega)
  have HE : Hid ((zs.take zs.length).count x = zs.count x) := by show _ = _; rw [List.take_length]
  obtain ⟨n, hnn⟩ : ∃ n, zs.length = n := ⟨_, rfl⟩
  have Hn : Hid (zs.length = n) := hnn
  rw [hnn] at hn HE ⊢
  rw [← HE.out]
  clear h hnn
  go_enter Try.func69, Try.ntmps69
  go_wp2
  go_loop [5, 10] (fun c i => ∃ j : Nat, j ≤ n ∧ i = .int .i64 j ∧ c = .int .i64 (((zs.take j).count x : Nat) : Int)) (fun _ i => n - (intOf i).toNat)
  case atStart => exact ⟨0, by omega, rfl, by simp⟩
  case round =>
    obtain ⟨j, hj, rfl, rfl⟩ := hrel
    by_cases hlt : j < n
    · have hj2 : j < zs.length := by have := Hn.out; omega
      obtain ⟨g, off, rfl, -, hc⟩ := HA.out j hj2
      have HD2 : Hid (_ = _) := HD.out j hj2
      have hl := HL.out j
      generalize (zs.take j).count x = M at *
      generalize zs[j] = z at *
      by_cases he : z = x
      · have HR : Hid ((zs.take (j + 1)).count x = M + 1) := by show _ = _; rw [HD2.out, if_pos he]
        subst he
        go_wp2
        go_round
        case rel => exact ⟨j + 1, by omega, by go_num, by rw [HR.out]; go_num⟩
        case measure => simp [intOf]; omega
      · have HR : Hid ((zs.take (j + 1)).count x = M) := by show _ = _; rw [HD2.out, if_neg he]; rfl
        have hq : (z == x) = false := by rw [beq_eq_false_iff_ne]; exact he
        go_wp2
        go_round
        case rel => exact ⟨j + 1, by omega, by go_num, by rw [HR.out]⟩
        case measure => simp [intOf]; omega
    · obtain rfl : j = n := by omega
      go_wp2
      go_ret
      exact ⟨rfl, rfl⟩

end Go.Proofs.Ytjhdnachbahbmaa
