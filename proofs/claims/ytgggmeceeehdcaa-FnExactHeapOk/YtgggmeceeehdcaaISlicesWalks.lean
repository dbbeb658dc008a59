/- What impl.within, impl.timesIn, impl.InEdges and, at numbers and texts, slices.Index, Contains and Equal answer. -/
import Derived.Test.YtgggmeceeehdcaaISlotWalks
import Derived.Test.YtgggmeceeehdcaaSEdgesWalks
import Derived.Test.YtgggmeceeehdcaaLaterQuiet
namespace Go.Proofs.Ytgggmeceeehdcaa
open Go.RowKit
set_option linter.unusedVariables false

theorem within_yes (x lo hi : Int) (w : World) (h1 : lo ≤ x) (h2 : x ≤ hi) :
    Calls Try.prog 55 #[.int .i64 x, .int .i64 lo, .int .i64 hi] w fun e w' => e = .returned (.bool true) ∧ w' = w := by
  go_enter Try.func55, Try.ntmps55
  go_wp2
  go_ret
  exact ⟨rfl, rfl⟩
theorem within_no (x lo hi : Int) (w : World) (h : x < lo ∨ hi < x) :
    Calls Try.prog 55 #[.int .i64 x, .int .i64 lo, .int .i64 hi] w fun e w' => e = .returned (.bool false) ∧ w' = w := by
  by_cases h1 : x < lo
  · clear h
    go_enter Try.func55, Try.ntmps55
    go_wp2
    go_ret
    exact ⟨rfl, rfl⟩
  · have h2 : hi < x := by omega
    have h3 : lo ≤ x := by omega
    clear h
    go_enter Try.func55, Try.ntmps55
    go_wp2
    go_ret
    exact ⟨ret_bb (decide_eq_false (by omega)), rfl⟩

/-- Where a thing stands first in a list; -1 where it doesn't. -/
def idxL {α : Type} [DecidableEq α] (x : α) : List α → Int → Int
  | [], _ => -1
  | y :: r, i => if x = y then i else idxL x r (i + 1)
theorem idxL_step {α : Type} [DecidableEq α] (x : α) (zs : List α) (j : Nat) (h : j < zs.length) : idxL x (zs.drop j) (j : Int) = if x = zs[j] then (j : Int) else idxL x (zs.drop (j + 1)) ((j + 1 : Nat) : Int) := by
  rw [List.drop_eq_getElem_cons h]; simp [idxL]
theorem idxL_end {α : Type} [DecidableEq α] (x : α) (zs : List α) (i : Int) : idxL x (zs.drop zs.length) i = -1 := by rw [List.drop_length]; rfl
theorem idxL_mem {α : Type} [DecidableEq α] (x : α) (zs : List α) : ∀ i, 0 ≤ i → (0 ≤ idxL x zs i ↔ x ∈ zs) := by
  induction zs with
  | nil => intro i _; simp [idxL]
  | cons y r ih =>
    intro i hi
    unfold idxL
    by_cases e : x = y
    · rw [if_pos e]; simp [e, hi]
    · rw [if_neg e, ih (i + 1) (by omega)]; simp [e]

theorem idxInt_calls (w : World) (a : Option Addr) (cap : Nat) (zs : List Int) (x : Int) (h : RdI w a zs) (hn : zs.length ≤ 9223372036854775806) :
    Calls Try.prog 73 #[.slice a zs.length cap, .int .i64 x] w fun e w' => e = .returned (.int .i64 (idxL x zs 0)) ∧ w' = w := by
  have HA : Hid (RdI w a zs) := h
  have HD : Hid (∀ (j : Nat) (h : j < zs.length), idxL x (zs.drop j) (j : Int) = _) := fun j hj => idxL_step x zs j hj
  have H0 : Hid (idxL x zs 0 = idxL x (zs.drop 0) ((0 : Nat) : Int)) := rfl
  have HE : Hid (idxL x (zs.drop zs.length) (zs.length : Int) = -1) := idxL_end x zs _
  obtain ⟨n, hnn⟩ : ∃ n, zs.length = n := ⟨_, rfl⟩
  have Hn : Hid (zs.length = n) := hnn
  rw [hnn] at hn HE ⊢
  generalize idxL x zs 0 = b at *
  clear h hnn
  go_enter Try.func73, Try.ntmps73
  go_wp2
  go_loop [8] (fun i => ∃ j : Nat, j ≤ n ∧ i = .int .i64 j ∧ Hid (b = idxL x (zs.drop j) (j : Int))) (fun i => n - (intOf i).toNat)
  case atStart => exact ⟨0, by omega, rfl, H0⟩
  case round =>
    obtain ⟨j, hj, rfl, HJ⟩ := hrel
    by_cases hlt : j < n
    · have hj2 : j < zs.length := by have := Hn.out; omega
      obtain ⟨g, off, rfl, -, hc⟩ := HA.out j hj2
      have HD2 : Hid (_ = _) := HD.out j hj2
      generalize zs[j] = z at *
      by_cases he : x = z
      · have HR : Hid (b = (j : Int)) := by show _ = _; rw [HJ.out, HD2.out, if_pos he]
        subst he
        go_wp2
        go_ret
        exact ⟨ret_zz HR.out.symm, rfl⟩
      · have HR : Hid (b = idxL x (zs.drop (j + 1)) ((j + 1 : Nat) : Int)) := by show _ = _; rw [HJ.out, HD2.out, if_neg he]
        have hq : (x == z) = false := by rw [beq_eq_false_iff_ne]; exact he
        go_wp2
        go_round
        case rel => exact ⟨j + 1, by omega, by go_num, HR⟩
        case measure => simp [intOf]; omega
    · obtain rfl : j = n := by omega
      have HR : Hid (b = -1) := by show _ = _; rw [HJ.out, HE.out]
      go_wp2
      go_ret
      exact ⟨ret_zz HR.out.symm, rfl⟩

theorem hasInt_calls (w : World) (a : Option Addr) (cap : Nat) (zs : List Int) (x : Int) (h : RdI w a zs) (hn : zs.length ≤ 9223372036854775806) :
    Calls Try.prog 68 #[.slice a zs.length cap, .int .i64 x] w fun e w' => e = .returned (.bool (decide (x ∈ zs))) ∧ w' = w := by
  have C : Hid (∀ u : Unit, _) := fun (_ : Unit) => idxInt_calls w a cap zs x h hn
  have hm := idxL_mem x zs 0 (Int.le_refl _)
  have HE : Hid (decide (x ∈ zs) = decide (0 ≤ idxL x zs 0)) := by show _ = _; rw [decide_eq_decide]; exact hm.symm
  rw [HE.out]
  generalize idxL x zs 0 = z at *
  clear h hm HE
  go_enter Try.func68, Try.ntmps68
  go_wp2_with fail
  refine (C.out ()).mono ?_
  rintro e w1 ⟨rfl, hw1⟩
  subst hw1
  go_wp2
  go_ret
  exact ⟨rfl, rfl⟩

theorem txt_beq_ne' {y x : List UInt8} (h : y ≠ x) : ((txt y).toList == (txt x).toList) = false := by
  rw [beq_eq_false_iff_ne]
  intro e
  unfold txt at e
  rw [ByteArray.toList_mk, ByteArray.toList_mk] at e
  exact h (by simpa using e)

theorem idxStr_calls (w : World) (a : Option Addr) (cap : Nat) (zs : List (List UInt8)) (x : List UInt8) (h : RdS w a zs) (hn : zs.length ≤ 9223372036854775806) :
    Calls Try.prog 72 #[.slice a zs.length cap, .string (txt x)] w fun e w' => e = .returned (.int .i64 (idxL x zs 0)) ∧ w' = w := by
  have HA : Hid (RdS w a zs) := h
  have HD : Hid (∀ (j : Nat) (h : j < zs.length), idxL x (zs.drop j) (j : Int) = _) := fun j hj => idxL_step x zs j hj
  have H0 : Hid (idxL x zs 0 = idxL x (zs.drop 0) ((0 : Nat) : Int)) := rfl
  have HE : Hid (idxL x (zs.drop zs.length) (zs.length : Int) = -1) := idxL_end x zs _
  obtain ⟨n, hnn⟩ : ∃ n, zs.length = n := ⟨_, rfl⟩
  have Hn : Hid (zs.length = n) := hnn
  rw [hnn] at hn HE ⊢
  generalize idxL x zs 0 = b at *
  clear h hnn
  go_enter Try.func72, Try.ntmps72
  go_wp2
  go_loop [8] (fun i => ∃ j : Nat, j ≤ n ∧ i = .int .i64 j ∧ Hid (b = idxL x (zs.drop j) (j : Int))) (fun i => n - (intOf i).toNat)
  case atStart => exact ⟨0, by omega, rfl, H0⟩
  case round =>
    obtain ⟨j, hj, rfl, HJ⟩ := hrel
    by_cases hlt : j < n
    · have hj2 : j < zs.length := by have := Hn.out; omega
      obtain ⟨g, off, rfl, -, hc⟩ := HA.out j hj2
      have HD2 : Hid (_ = _) := HD.out j hj2
      generalize zs[j] = z at *
      by_cases he : x = z
      · have HR : Hid (b = (j : Int)) := by show _ = _; rw [HJ.out, HD2.out, if_pos he]
        subst he
        go_wp2
        go_ret
        exact ⟨ret_zz HR.out.symm, rfl⟩
      · have HR : Hid (b = idxL x (zs.drop (j + 1)) ((j + 1 : Nat) : Int)) := by show _ = _; rw [HJ.out, HD2.out, if_neg he]
        have hq : ((txt x).toList == (txt z).toList) = false := txt_beq_ne' he
        go_wp2
        go_round
        case rel => exact ⟨j + 1, by omega, by go_num, HR⟩
        case measure => simp [intOf]; omega
    · obtain rfl : j = n := by omega
      have HR : Hid (b = -1) := by show _ = _; rw [HJ.out, HE.out]
      go_wp2
      go_ret
      exact ⟨ret_zz HR.out.symm, rfl⟩

theorem hasStr_calls (w : World) (a : Option Addr) (cap : Nat) (zs : List (List UInt8)) (x : List UInt8) (h : RdS w a zs) (hn : zs.length ≤ 9223372036854775806) :
    Calls Try.prog 67 #[.slice a zs.length cap, .string (txt x)] w fun e w' => e = .returned (.bool (decide (x ∈ zs))) ∧ w' = w := by
  have C : Hid (∀ u : Unit, _) := fun (_ : Unit) => idxStr_calls w a cap zs x h hn
  have hm := idxL_mem x zs 0 (Int.le_refl _)
  have HE : Hid (decide (x ∈ zs) = decide (0 ≤ idxL x zs 0)) := by show _ = _; rw [decide_eq_decide]; exact hm.symm
  rw [HE.out]
  generalize idxL x zs 0 = z at *
  clear h hm HE
  go_enter Try.func67, Try.ntmps67
  go_wp2_with fail
  refine (C.out ()).mono ?_
  rintro e w1 ⟨rfl, hw1⟩
  subst hw1
  go_wp2
  go_ret
  exact ⟨rfl, rfl⟩

/-- Two lists are alike from some place on. -/
theorem drop_eq_step {α : Type} (zs ys : List α) (j : Nat) (h1 : j < zs.length) (h2 : j < ys.length) : zs.drop j = ys.drop j ↔ (zs[j] = ys[j] ∧ zs.drop (j + 1) = ys.drop (j + 1)) := by
  rw [List.drop_eq_getElem_cons h1, List.drop_eq_getElem_cons h2, List.cons.injEq]

theorem eqInt_calls (w : World) (a c : Option Addr) (cap cap2 : Nat) (zs ys : List Int) (h1 : RdI w a zs) (h2 : RdI w c ys) (hn : zs.length ≤ 9223372036854775806) (hm : ys.length ≤ 9223372036854775806) :
    Calls Try.prog 69 #[.slice a zs.length cap, .slice c ys.length cap2] w fun e w' => e = .returned (.bool (decide (zs = ys))) ∧ Below w.heap.size w w' := by
  by_cases hl : zs.length = ys.length
  · have HA : Hid (∀ X : LaterW w, RdI X.on a zs) := fun X => rdI_later h1 X.bel
    have HC : Hid (∀ X : LaterW w, RdI X.on c ys) := fun X => rdI_later h2 X.bel
    have H0 : Hid (decide (zs = ys) = decide (zs.drop 0 = ys.drop 0)) := rfl
    have HS : Hid (∀ (j : Nat) (h1 : j < zs.length) (h2 : j < ys.length), (zs.drop j = ys.drop j) ↔ _) := fun j h1 h2 => drop_eq_step zs ys j h1 h2
    have HE : Hid (zs.drop zs.length = ys.drop zs.length) := by show _ = _; rw [List.drop_length, hl, List.drop_length]
    generalize decide (zs = ys) = b at *
    obtain ⟨n, hnn⟩ : ∃ n, zs.length = n := ⟨_, rfl⟩
    have Hn : Hid (zs.length = n) := hnn
    have Hm : Hid (ys.length = n) := by show _ = _; omega
    rw [hnn] at hn HE ⊢
    rw [Hm.out]
    clear h1 h2 hnn hl hm
    go_enter Try.func69, Try.ntmps69
    go_wp2
    go_loopw [13] (fun i wr => ∃ j : Nat, j ≤ n ∧ i = .int .i64 j ∧ Hid (b = decide (zs.drop j = ys.drop j)) ∧ Below w.heap.size w wr) (fun i _ => n - (intOf i).toNat)
    case atStart => exact ⟨0, by omega, rfl, H0, Below.refl _ _⟩
    case round =>
      obtain ⟨j, hj, rfl, HJ, hb⟩ := hrel
      by_cases hlt : j < n
      · have hj2 : j < zs.length := by have := Hn.out; omega
        have hj3 : j < ys.length := by have := Hm.out; omega
        obtain ⟨g, off, rfl, -, -⟩ := HA.out ⟨w, Below.refl _ _⟩ j hj2
        obtain ⟨g2, off2, rfl, -, -⟩ := HC.out ⟨w, Below.refl _ _⟩ j hj3
        have hne := LaterW.some_ wr
        have z1 : ∀ X : LaterW wr, X.on.cell? ⟨g, off + j, none⟩ = some (.int .i64 zs[j]) := fun X => by
          obtain ⟨g', off', e1, -, e2⟩ := HA.out ⟨X.on, hb.trans (X.bel.mono hb.size)⟩ j hj2
          simp only [Option.some.injEq, Addr.mk.injEq, and_true] at e1
          obtain ⟨rfl, rfl⟩ := e1
          exact e2
        have z2 : ∀ X : LaterW wr, X.on.cell? ⟨g2, off2 + j, none⟩ = some (.int .i64 ys[j]) := fun X => by
          obtain ⟨g', off', e1, -, e2⟩ := HC.out ⟨X.on, hb.trans (X.bel.mono hb.size)⟩ j hj3
          simp only [Option.some.injEq, Addr.mk.injEq, and_true] at e1
          obtain ⟨rfl, rfl⟩ := e1
          exact e2
        have HS2 : Hid (_ ↔ _) := HS.out j hj2 hj3
        generalize zs[j] = z at *
        generalize ys[j] = y at *
        by_cases he : z = y
        · have HR : Hid (b = decide (zs.drop (j + 1) = ys.drop (j + 1))) := by show _ = _; rw [HJ.out, decide_eq_decide, HS2.out]; exact ⟨fun h => h.2, fun h => ⟨he, h⟩⟩
          subst he
          go_wp2
          refine wp_region_later wr (Below.refl _ _) (by kernel_rfl) (by kernel_rfl) ?_
          repeat (go_big_quiet_step (fail))
          refine wpQuiet_nil ?_
          rintro _ ⟨⟨X, hX⟩, rfl⟩
          go_wp2
          go_roundw
          case rel => exact ⟨j + 1, by omega, by go_num, HR, hb.trans (hX.mono hb.size)⟩
          case measure => simp [intOf]; omega
        · have HR : Hid (b = false) := by show _ = _; rw [HJ.out, decide_eq_false (fun h => he (HS2.out.1 h).1)]
          have hq : (z != y) = true := by rw [bne_iff_ne]; exact he
          go_wp2
          refine wp_region_later wr (Below.refl _ _) (by kernel_rfl) (by kernel_rfl) ?_
          repeat (go_big_quiet_step (fail))
          refine wpQuiet_nil ?_
          rintro _ ⟨⟨X, hX⟩, rfl⟩
          go_wp2
          go_ret
          exact ⟨ret_bb HR.out.symm, hb.trans (hX.mono hb.size)⟩
      · obtain rfl : j = n := by omega
        have HR : Hid (b = true) := by show _ = _; rw [HJ.out]; exact decide_eq_true HE.out
        go_wp2
        go_ret
        exact ⟨ret_bb HR.out.symm, hb⟩
  · have hd : decide (zs = ys) = false := decide_eq_false (fun e => hl (by rw [e]))
    rw [hd]
    have hq : ¬ ((zs.length : Int) = (ys.length : Int)) := by omega
    clear h1 h2 hd
    go_enter Try.func69, Try.ntmps69
    go_wp2
    go_ret
    exact ⟨rfl, Below.refl _ _⟩

theorem timesIn_calls (w : World) (a : Option Addr) (cap : Nat) (zs : List Int) (x : Int) (h : RdI w a zs) (hn : zs.length ≤ 1048576) :
    Calls Try.prog 51 #[.slice a zs.length cap, .int .i64 x] w fun e w' => e = .returned (.int .i64 ((zs.count x : Nat) : Int)) ∧ w' = w := by
  have HA : Hid (RdI w a zs) := h
  have HD : Hid (∀ (j : Nat) (h : j < zs.length), (zs.take (j + 1)).count x = _) := fun j hj => count_succ x zs j hj
  have HL : Hid (∀ k, (zs.take k).count x ≤ 1048576) := fun k => Nat.le_trans List.count_le_length (by rw [List.length_take]; omega)
  have HE : Hid ((zs.take zs.length).count x = zs.count x) := by show _ = _; rw [List.take_length]
  obtain ⟨n, hnn⟩ : ∃ n, zs.length = n := ⟨_, rfl⟩
  have Hn : Hid (zs.length = n) := hnn
  rw [hnn] at hn HE ⊢
  rw [← HE.out]
  clear h hnn
  go_enter Try.func51, Try.ntmps51
  go_wp2
  go_loop [5, 10] (fun c i => ∃ j : Nat, j ≤ n ∧ i = .int .i64 j ∧ c = .int .i64 (((zs.take j).count x : Nat) : Int)) (fun _ i => n - (intOf i).toNat)
  case atStart => exact ⟨0, by omega, rfl, by simp⟩
  case round =>
    obtain ⟨j, hj, rfl, rfl⟩ := hrel
    by_cases hlt : j < n
    · have hj2 : j < zs.length := by have := Hn.out; omega
      obtain ⟨g, off, rfl, -, hc⟩ := HA.out j hj2
      have HD2 : Hid (_ = _) := HD.out j hj2
      have hl := HL.out j
      generalize (zs.take j).count x = M at *
      generalize zs[j] = z at *
      by_cases he : z = x
      · have HR : Hid ((zs.take (j + 1)).count x = M + 1) := by show _ = _; rw [HD2.out, if_pos he]
        subst he
        go_wp2
        go_round
        case rel => exact ⟨j + 1, by omega, by go_num, by rw [HR.out]; go_num⟩
        case measure => simp [intOf]; omega
      · have HR : Hid ((zs.take (j + 1)).count x = M) := by show _ = _; rw [HD2.out, if_neg he]; rfl
        have hq : (z == x) = false := by rw [beq_eq_false_iff_ne]; exact he
        go_wp2
        go_round
        case rel => exact ⟨j + 1, by omega, by go_num, by rw [HR.out]⟩
        case measure => simp [intOf]; omega
    · obtain rfl : j = n := by omega
      go_wp2
      go_ret
      exact ⟨rfl, rfl⟩

end Go.Proofs.Ytgggmeceeehdcaa
