/- What the laws' own helpers on rows of numbers do: szIntS, toIntS. -/
import Derived.Test.YtcjpepdagnifiaaDoorOwnI
namespace Go.Proofs.YtcjpepdagnifiaaDoor
open Go.RowKit
set_option linter.unusedVariables false

/-- A row of numbers as one who only reads has it. -/
def RdI (w : World) (a : Option Addr) (zs : List Int) : Prop := ∀ j (h : j < zs.length), ∃ g off, a = some ⟨g, off, none⟩ ∧ g < w.heap.size ∧ w.cell? ⟨g, off + j, none⟩ = some (.int .i64 zs[j])
theorem rdI_own {w : World} {B : Nat} {v : Value} {zs : List Int} (h : ownI w B v zs) : ∃ a cap, v = .slice a zs.length cap ∧ Hid (RdI w a zs) := by
  rcases ownI_form h with ⟨rfl, rfl⟩ | ⟨g, cap, rfl, _, hg, _, _, HC⟩
  · exact ⟨none, 0, rfl, fun j hj => by simp at hj⟩
  · exact ⟨_, cap, rfl, fun j hj => ⟨g, 0, rfl, hg, by rw [Nat.zero_add]; exact (HC.out j hj).1⟩⟩
theorem rdI_later {w w' : World} {a : Option Addr} {zs : List Int} (h : RdI w a zs) (hb : Below w.heap.size w w') : RdI w' a zs := by
  intro j hj
  obtain ⟨g, off, ha, hg, hc⟩ := h j hj
  exact ⟨g, off, ha, Nat.lt_of_lt_of_le hg hb.size, (hb.cell (p := ⟨g, off + j, none⟩) hg).trans hc⟩

theorem szIntS_calls (w : World) (a : Option Addr) (cap n : Nat) (left : Int) (hn : n ≤ 9223372036854775807) (h0 : 0 ≤ left) (h1 : left ≤ 1048576) :
    Calls Tryd.prog 64 #[.slice a n cap, .int .i64 left] w fun e w' => e = .returned (.int .i64 (if left - (n : Int) < 0 then -1 else left - (n : Int))) ∧ w' = w := by
  by_cases hl : left - (n : Int) < 0
  · rw [if_pos hl]
    go_enter Tryd.func64, Tryd.ntmps64
    go_wp2
    go_ret
    exact ⟨rfl, rfl⟩
  · rw [if_neg hl]
    have hl2 : (n : Int) ≤ left := by omega
    clear hl
    go_enter Tryd.func64, Tryd.ntmps64
    go_wp2
    go_ret
    exact ⟨rfl, rfl⟩

/-- The first j numbers of a row laid over a new one. -/
def laidI (zs : List Int) (j : Nat) : List Int := zs.take j ++ List.replicate (zs.length - j) 0
theorem laidI_length (zs : List Int) (j : Nat) (h : j ≤ zs.length) : (laidI zs j).length = zs.length := by
  unfold laidI; rw [List.length_append, List.length_take, List.length_replicate]; omega
theorem laidI_zero (zs : List Int) : laidI zs 0 = List.replicate zs.length 0 := by unfold laidI; simp
theorem laidI_all (zs : List Int) : laidI zs zs.length = zs := by unfold laidI; simp
theorem laidI_succ (zs : List Int) (j : Nat) (h : j < zs.length) : (laidI zs j).set j zs[j] = laidI zs (j + 1) := by
  unfold laidI
  have hl : (zs.take j).length = j := by rw [List.length_take]; omega
  rw [List.set_append_right _ _ (by omega), hl, Nat.sub_self]
  obtain ⟨m, hm⟩ : ∃ m, zs.length - j = m + 1 := ⟨zs.length - j - 1, by omega⟩
  rw [hm, List.replicate_succ, List.set_cons_zero, show zs.length - (j + 1) = m from by omega, List.take_succ_eq_append_getElem h, List.append_assoc]
  rfl

theorem make_ints (n : Nat) (hn : n ≤ 16777216) (u : World) : ∃ u', (Instr.makeSlice 28 (.int .i64 (n : Int)) (.int .i64 (n : Int))).run Tryd.prog u = .ok (.slice (some ⟨u.heap.size, 0, none⟩) n n) u' ∧
    ownI u' u.heap.size (.slice (some ⟨u.heap.size, 0, none⟩) n n) (List.replicate n 0) ∧ Below u.heap.size u u' := by
  obtain ⟨i0, hi, hz0, hz1, hz2⟩ := info_parts infoI
  obtain ⟨u', h1, h2, h3⟩ := run_make_full (P := Tryd.prog) u u.heap.size 28 3 i0 (.int .i64 0) 1 Tryd.underlying28 hi hz0 hz1 .i64 .i64 n (by rw [hz2]; omega) (by unfold maxLen; omega) (Nat.le_refl _)
  refine ⟨u', h1, ?_, (Below.refl _ _).grown h3 (Nat.le_refl _) (fun r hr => by cases hr)⟩
  unfold ownI
  have e : (madeCells (Value.int .i64 0).cells (n * 1)).toList = (List.replicate n 0).map intV := by
    have h3 : (Value.int .i64 0).cells = #[Value.int .i64 0] := by simp [Value.cells]
    rw [h3, toList_madeCells_one, Nat.mul_one]
    simp [intV]
  rw [e] at h2
  rw [List.length_replicate]
  exact h2

theorem toIntS_calls (w : World) (a : Option Addr) (cap : Nat) (zs : List Int) (h : RdI w a zs) (hn : zs.length ≤ 16777216) :
    Calls Tryd.prog 67 #[.slice a zs.length cap] w fun e w' => ∃ v, e = .returned v ∧ ownI w' w.heap.size v zs ∧ Below w.heap.size w w' := by
  have HA : Hid (RdI w a zs) := h
  obtain ⟨u, hmk, O1, B1⟩ := make_ints zs.length hn w
  have HS : Hid (∀ (j : Nat) (h : j < zs.length), (laidI zs j).set j zs[j] = laidI zs (j + 1)) := laidI_succ zs
  have HL : Hid (∀ j, j ≤ zs.length → (laidI zs j).length = zs.length) := laidI_length zs
  have HO : Hid (ownI u w.heap.size (.slice (some ⟨w.heap.size, 0, none⟩) zs.length zs.length) (laidI zs 0)) := by rw [laidI_zero]; exact O1
  have HF : Hid (laidI zs zs.length = zs) := laidI_all zs
  obtain ⟨n, hnn⟩ : ∃ n, zs.length = n := ⟨_, rfl⟩
  have Hn : Hid (zs.length = n) := hnn
  rw [hnn] at hn hmk HO HF ⊢
  clear h O1 hnn
  go_enter Tryd.func67, Tryd.ntmps67
  go_wp2
  go_loopw [4] (fun i wr => ∃ j : Nat, j ≤ n ∧ i = .int .i64 j ∧ Hid (ownI wr w.heap.size (.slice (some ⟨w.heap.size, 0, none⟩) n n) (laidI zs j)) ∧ Below w.heap.size w wr) (fun i _ => n - (intOf i).toNat)
  case atStart => exact ⟨0, by omega, rfl, HO, B1⟩
  case round =>
    obtain ⟨j, hj, rfl, HW, hb⟩ := hrel
    have hml : (laidI zs j).length = n := by rw [HL.out j (by have := Hn.out; omega), Hn.out]
    by_cases hlt : j < n
    · have hj2 : j < zs.length := by have := Hn.out; omega
      obtain ⟨g, off, rfl, hg, hc1⟩ := HA.out j hj2
      rw [← hb.cell (p := ⟨g, off + j, none⟩) hg] at hc1
      rcases ownI_form HW.out with ⟨he, -⟩ | ⟨g2, cap2, he, -, -, -, -, HC⟩
      · simp only [Value.slice.injEq] at he
        omega
      · simp only [Value.slice.injEq, Option.some.injEq, Addr.mk.injEq, and_true] at he
        obtain ⟨hg2, -, -⟩ := he
        obtain ⟨hcell, hfr⟩ := HC.out j (by rw [hml]; exact hlt)
        rw [← hg2] at hcell hfr
        have HS2 : Hid (ownI _ _ _ _) := ownI_set HW.out hml.symm j zs[j]
        rw [HS.out j hj2] at HS2
        generalize zs[j] = z at hc1 HS2
        generalize (laidI zs j)[j] = z2 at hcell
        clear HC hml hg2
        go_wp2
        go_roundw
        case rel => exact ⟨j + 1, by omega, by go_num, HS2, hb.setCell (p := ⟨w.heap.size, j, none⟩) (Nat.le_refl _) _⟩
        case measure => simp [intOf]; omega
    · obtain rfl : j = n := by omega
      clear hml
      go_wp2
      go_ret
      exact ⟨_, rfl, HF.out ▸ HW.out, hb⟩

theorem eqIntS_rd (w : World) (a b : Option Addr) (cap cap2 : Nat) (zs : List Int) (h1 : RdI w a zs) (h2 : RdI w b zs) (hz : zs.length ≤ 16777216) :
    Calls Tryd.prog 34 #[.slice a zs.length cap, .slice b zs.length cap2] w fun e w' => e = .returned (.bool true) ∧ Below w.heap.size w w' := by
  have HA : Hid (RdI w a zs) := h1
  have HB : Hid (RdI w b zs) := h2
  clear h1 h2
  obtain ⟨n, hn⟩ : ∃ n, zs.length = n := ⟨_, rfl⟩
  have Hn : Hid (zs.length = n) := hn
  rw [hn] at hz ⊢
  clear hn
  go_enter Tryd.func34, Tryd.ntmps34
  go_wp2
  go_loopw [5] (fun i wr => ∃ j : Nat, j ≤ n ∧ i = .int .i64 j ∧ Below w.heap.size w wr ∧ Hid (∀ p, wr.cell? p = w.cell? p)) (fun i _ => n - (intOf i).toNat)
  case atStart => exact ⟨0, by omega, rfl, Below.refl _ _, fun _ => rfl⟩
  case round =>
    obtain ⟨j, hj, rfl, hb, HW⟩ := hrel
    by_cases hlt : j < n
    · have hj2 : j < zs.length := by have := Hn.out; omega
      obtain ⟨g, off, rfl, -, hc1⟩ := HA.out j hj2
      obtain ⟨g2, off2, rfl, -, hc2⟩ := HB.out j hj2
      rw [← HW.out] at hc1 hc2
      generalize zs[j] = z at hc1 hc2
      go_wp2
      go_region
      all_goals
        go_wp2
        go_roundw
        case rel => exact ⟨j + 1, by omega, by go_num, hb.drew, fun p => HW.out p⟩
        case measure => simp [intOf]; omega
    · go_wp2
      go_ret
      exact ⟨rfl, hb⟩

end Go.Proofs.YtcjpepdagnifiaaDoor
