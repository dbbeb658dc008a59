/- What the laws' own helpers on rows of texts do: szStringS, toStringS, eqStringS. -/
import Derived.Test.YtcjpepdagnifiaaDoorOwnS
import Derived.Deep.RegionHeld
namespace Go.Proofs.YtcjpepdagnifiaaDoor
open Go.RowKit
set_option linter.unusedVariables false

theorem ret_z {k : IntKind} {a b : Int} (h : a = b) : Ending.returned (.int k a) = .returned (.int k b) := by rw [h]

/-- A row of texts as one who only reads has it. -/
def RdS (w : World) (a : Option Addr) (zs : List (List UInt8)) : Prop := ∀ j (h : j < zs.length), ∃ g off, a = some ⟨g, off, none⟩ ∧ g < w.heap.size ∧ w.cell? ⟨g, off + j, none⟩ = some (.string (txt zs[j]))
theorem rdS_own {w : World} {B : Nat} {v : Value} {zs : List (List UInt8)} (h : ownS w B v zs) : ∃ a cap, v = .slice a zs.length cap ∧ Hid (RdS w a zs) := by
  rcases ownS_form h with ⟨rfl, rfl⟩ | ⟨g, cap, rfl, _, hg, _, _, HC⟩
  · exact ⟨none, 0, rfl, fun j hj => by simp at hj⟩
  · exact ⟨_, cap, rfl, fun j hj => ⟨g, 0, rfl, hg, by rw [Nat.zero_add]; exact (HC.out j hj).1⟩⟩
theorem rdS_later {w w' : World} {a : Option Addr} {zs : List (List UInt8)} (h : RdS w a zs) (hb : Below w.heap.size w w') : RdS w' a zs := by
  intro j hj
  obtain ⟨g, off, ha, hg, hc⟩ := h j hj
  exact ⟨g, off, ha, Nat.lt_of_lt_of_le hg hb.size, (hb.cell (p := ⟨g, off + j, none⟩) hg).trans hc⟩

/-- What is left of a size behind texts; -1 where it doesn't do. -/
def szR : List (List UInt8) → Int → Int
  | [], left => left
  | z :: r, left => if left - (z.length : Int) < 0 then -1 else szR r (left - (z.length : Int))
def szS (zs : List (List UInt8)) (left : Int) : Int := if left - (zs.length : Int) < 0 then -1 else szR zs (left - (zs.length : Int))
theorem szR_le (zs : List (List UInt8)) : ∀ left : Int, -1 ≤ left → szR zs left ≤ left ∧ -1 ≤ szR zs left := by
  induction zs with
  | nil => intro left h; exact ⟨Int.le_refl _, h⟩
  | cons z r ih =>
    intro left h
    simp only [szR]
    split
    · omega
    · have := ih (left - (z.length : Int)) (by omega); omega
theorem szR_each (zs : List (List UInt8)) : ∀ left : Int, 0 ≤ szR zs left → ∀ z ∈ zs, (z.length : Int) ≤ left := by
  induction zs with
  | nil => intro left _ z hz; simp at hz
  | cons y r ih =>
    intro left h z hz
    simp only [szR] at h
    split at h
    · omega
    · rcases List.mem_cons.1 hz with rfl | hz
      · omega
      · have := ih _ h z hz; omega
theorem szS_facts (zs : List (List UInt8)) (left : Int) (h : 0 ≤ szS zs left) : (zs.length : Int) ≤ left ∧ ∀ z ∈ zs, (z.length : Int) ≤ left := by
  unfold szS at h
  split at h
  · omega
  · refine ⟨by omega, fun z hz => ?_⟩
    have := szR_each zs _ h z hz
    omega
theorem szR_drop (zs : List (List UInt8)) (left : Int) (j : Nat) (h : j < zs.length) : szR (zs.drop j) left = if left - (zs[j].length : Int) < 0 then -1 else szR (zs.drop (j + 1)) (left - (zs[j].length : Int)) := by
  rw [List.drop_eq_getElem_cons h]; rfl

theorem szStringS_calls (w : World) (a : Option Addr) (cap : Nat) (zs : List (List UInt8)) (left : Int) (h : RdS w a zs) (hn : zs.length ≤ 9223372036854775807) (hz : ∀ z ∈ zs, z.length ≤ 9223372036854775807) (h0 : 0 ≤ left) (h1 : left ≤ 1048576) :
    Calls Tryd.prog 24 #[.slice a zs.length cap, .int .i64 left] w fun e w' => e = .returned (.int .i64 (szS zs left)) ∧ w' = w := by
  have HA : Hid (RdS w a zs) := h
  have HZ : Hid (∀ z ∈ zs, z.length ≤ 9223372036854775807) := hz
  have HD : Hid (∀ (l : Int) (j : Nat) (h : j < zs.length), szR (zs.drop j) l = _) := fun l j h => szR_drop zs l j h
  obtain ⟨n, hnn⟩ : ∃ n, zs.length = n := ⟨_, rfl⟩
  have Hn : Hid (zs.length = n) := hnn
  clear h hz
  by_cases hl : left - (n : Int) < 0
  · have HE : Hid (szS zs left = -1) := by show _ = _; unfold szS; rw [hnn, if_pos hl]
    rw [hnn] at hn ⊢
    clear hnn
    go_enter Tryd.func24, Tryd.ntmps24
    go_wp2
    go_ret
    exact ⟨ret_z HE.out.symm, rfl⟩
  · have HE : Hid (szS zs left = szR (zs.drop 0) (left - (n : Int))) := by show _ = _; unfold szS; rw [hnn, if_neg hl, List.drop_zero]
    have HF : Hid (∀ l, szR (zs.drop n) l = l) := by intro l; rw [← hnn, List.drop_length]; rfl
    rw [hnn] at hn ⊢
    have hl2 : (n : Int) ≤ left := by omega
    clear hnn hl
    go_enter Tryd.func24, Tryd.ntmps24
    go_wp2
    go_loop [1, 5] (fun x i => ∃ (j : Nat) (l : Int), j ≤ n ∧ 0 ≤ l ∧ l ≤ left ∧ i = .int .i64 j ∧ x = .int .i64 l ∧ Hid (szS zs left = szR (zs.drop j) l)) (fun _ i => n - (intOf i).toNat)
    case atStart => exact ⟨0, left - (n : Int), by omega, by omega, by omega, rfl, rfl, HE⟩
    case round =>
      obtain ⟨j, l, hj, hl0, hl1, rfl, rfl, HJ⟩ := hrel
      by_cases hlt : j < n
      · have hj2 : j < zs.length := by have := Hn.out; omega
        obtain ⟨g, off, rfl, -, hc1⟩ := HA.out j hj2
        have hzl := HZ.out zs[j] (List.getElem_mem hj2)
        have HD2 : Hid (_ = _) := HD.out l j hj2
        have hsz : (txt zs[j]).size = zs[j].length := rfl
        generalize zs[j] = z at *
        by_cases hneg : l - (z.length : Int) < 0
        · have HR : Hid (szS zs left = -1) := by show _ = _; rw [HJ.out, HD2.out, if_pos hneg]
          go_wp2
          go_ret
          exact ⟨ret_z HR.out.symm, rfl⟩
        · have HR : Hid (szS zs left = szR (zs.drop (j + 1)) (l - (z.length : Int))) := by show _ = _; rw [HJ.out, HD2.out, if_neg hneg]
          have hneg2 : 0 ≤ l - (z.length : Int) := by omega
          clear hneg
          go_wp2
          go_round
          case rel => exact ⟨j + 1, l - (z.length : Int), by omega, by omega, by omega, by go_num, by go_num, HR⟩
          case measure => simp [intOf]; omega
      · obtain rfl : j = n := by omega
        have HR : Hid (szS zs left = l) := by show _ = _; rw [HJ.out, HF.out]
        go_wp2
        go_ret
        exact ⟨ret_z HR.out.symm, rfl⟩

/-- The first j texts of a row laid over a new one. -/
def laidS (zs : List (List UInt8)) (j : Nat) : List (List UInt8) := zs.take j ++ List.replicate (zs.length - j) []
theorem laidS_length (zs : List (List UInt8)) (j : Nat) (h : j ≤ zs.length) : (laidS zs j).length = zs.length := by
  unfold laidS; rw [List.length_append, List.length_take, List.length_replicate]; omega
theorem laidS_zero (zs : List (List UInt8)) : laidS zs 0 = List.replicate zs.length [] := by unfold laidS; simp
theorem laidS_all (zs : List (List UInt8)) : laidS zs zs.length = zs := by unfold laidS; simp
theorem laidS_succ (zs : List (List UInt8)) (j : Nat) (h : j < zs.length) : (laidS zs j).set j zs[j] = laidS zs (j + 1) := by
  unfold laidS
  have hl : (zs.take j).length = j := by rw [List.length_take]; omega
  rw [List.set_append_right _ _ (by omega), hl, Nat.sub_self]
  obtain ⟨m, hm⟩ : ∃ m, zs.length - j = m + 1 := ⟨zs.length - j - 1, by omega⟩
  rw [hm, List.replicate_succ, List.set_cons_zero, show zs.length - (j + 1) = m from by omega, List.take_succ_eq_append_getElem h, List.append_assoc]
  rfl

theorem make_strs (n : Nat) (hn : n ≤ 16777216) (u : World) : ∃ u', (Instr.makeSlice 22 (.int .i64 (n : Int)) (.int .i64 (n : Int))).run Tryd.prog u = .ok (.slice (some ⟨u.heap.size, 0, none⟩) n n) u' ∧
    ownS u' u.heap.size (.slice (some ⟨u.heap.size, 0, none⟩) n n) (List.replicate n []) ∧ Below u.heap.size u u' := by
  obtain ⟨i0, hi, hz0, hz1, hz2⟩ := info_parts infoS
  obtain ⟨u', h1, h2, h3⟩ := run_make_full (P := Tryd.prog) u u.heap.size 22 9 i0 (.string (txt [])) 1 Tryd.underlying22 hi hz0 hz1 .i64 .i64 n (by rw [hz2]; omega) (by unfold maxLen; omega) (Nat.le_refl _)
  refine ⟨u', h1, ?_, (Below.refl _ _).grown h3 (Nat.le_refl _) (fun r hr => by cases hr)⟩
  unfold ownS
  have e : (madeCells (Value.string (txt [])).cells (n * 1)).toList = (List.replicate n []).map strV := by
    have h3 : (Value.string (txt [])).cells = #[Value.string (txt [])] := by simp [Value.cells]
    rw [h3, toList_madeCells_one, Nat.mul_one]
    simp [strV]
  rw [e] at h2
  rw [List.length_replicate]
  exact h2

theorem toStringS_calls (w : World) (a : Option Addr) (cap : Nat) (zs : List (List UInt8)) (h : RdS w a zs) (hn : zs.length ≤ 16777216) :
    Calls Tryd.prog 29 #[.slice a zs.length cap] w fun e w' => ∃ v, e = .returned v ∧ ownS w' w.heap.size v zs ∧ Below w.heap.size w w' := by
  have HA : Hid (RdS w a zs) := h
  obtain ⟨u, hmk, O1, B1⟩ := make_strs zs.length hn w
  have HS : Hid (∀ (j : Nat) (h : j < zs.length), (laidS zs j).set j zs[j] = laidS zs (j + 1)) := laidS_succ zs
  have HL : Hid (∀ j, j ≤ zs.length → (laidS zs j).length = zs.length) := laidS_length zs
  have HO : Hid (ownS u w.heap.size (.slice (some ⟨w.heap.size, 0, none⟩) zs.length zs.length) (laidS zs 0)) := by rw [laidS_zero]; exact O1
  have HF : Hid (laidS zs zs.length = zs) := laidS_all zs
  obtain ⟨n, hnn⟩ : ∃ n, zs.length = n := ⟨_, rfl⟩
  have Hn : Hid (zs.length = n) := hnn
  rw [hnn] at hn hmk HO HF ⊢
  clear h O1 hnn
  go_enter Tryd.func29, Tryd.ntmps29
  go_wp2
  go_loopw [4] (fun i wr => ∃ j : Nat, j ≤ n ∧ i = .int .i64 j ∧ Hid (ownS wr w.heap.size (.slice (some ⟨w.heap.size, 0, none⟩) n n) (laidS zs j)) ∧ Below w.heap.size w wr) (fun i _ => n - (intOf i).toNat)
  case atStart => exact ⟨0, by omega, rfl, HO, B1⟩
  case round =>
    obtain ⟨j, hj, rfl, HW, hb⟩ := hrel
    have hml : (laidS zs j).length = n := by rw [HL.out j (by have := Hn.out; omega), Hn.out]
    by_cases hlt : j < n
    · have hj2 : j < zs.length := by have := Hn.out; omega
      obtain ⟨g, off, rfl, hg, hc1⟩ := HA.out j hj2
      rw [← hb.cell (p := ⟨g, off + j, none⟩) hg] at hc1
      rcases ownS_form HW.out with ⟨he, -⟩ | ⟨g2, cap2, he, -, -, -, -, HC⟩
      · simp only [Value.slice.injEq] at he
        omega
      · simp only [Value.slice.injEq, Option.some.injEq, Addr.mk.injEq, and_true] at he
        obtain ⟨hg2, -, -⟩ := he
        obtain ⟨hcell, hfr⟩ := HC.out j (by rw [hml]; exact hlt)
        rw [← hg2] at hcell hfr
        have HS2 : Hid (ownS _ _ _ _) := ownS_set HW.out hml.symm j zs[j]
        rw [HS.out j hj2] at HS2
        generalize zs[j] = z at hc1 HS2
        generalize (laidS zs j)[j] = z2 at hcell
        clear HC hml hg2
        go_wp2
        go_roundw
        case rel => exact ⟨j + 1, by omega, by go_num, HS2, hb.setCell (p := ⟨w.heap.size, j, none⟩) (Nat.le_refl _) _⟩
        case measure => simp [intOf]; omega
    · obtain rfl : j = n := by omega
      clear hml
      go_wp2
      go_ret
      exact ⟨_, rfl, HF.out ▸ HW.out, hb⟩

theorem eqStringS_rd (w : World) (a b : Option Addr) (cap cap2 : Nat) (zs : List (List UInt8)) (h1 : RdS w a zs) (h2 : RdS w b zs) (hz : zs.length ≤ 16777216) :
    Calls Tryd.prog 35 #[.slice a zs.length cap, .slice b zs.length cap2] w fun e w' => e = .returned (.bool true) ∧ Below w.heap.size w w' := by
  have HA : Hid (RdS w a zs) := h1
  have HB : Hid (RdS w b zs) := h2
  clear h1 h2
  obtain ⟨n, hn⟩ : ∃ n, zs.length = n := ⟨_, rfl⟩
  have Hn : Hid (zs.length = n) := hn
  rw [hn] at hz ⊢
  clear hn
  go_enter Tryd.func35, Tryd.ntmps35
  go_wp2
  go_loopw [5] (fun i wr => ∃ j : Nat, j ≤ n ∧ i = .int .i64 j ∧ Below w.heap.size w wr ∧ Hid (∀ p, wr.cell? p = w.cell? p)) (fun i _ => n - (intOf i).toNat)
  case atStart => exact ⟨0, by omega, rfl, Below.refl _ _, fun _ => rfl⟩
  case round =>
    obtain ⟨j, hj, rfl, hb, HW⟩ := hrel
    by_cases hlt : j < n
    · have hj2 : j < zs.length := by have := Hn.out; omega
      obtain ⟨g, off, rfl, -, hc1⟩ := HA.out j hj2
      obtain ⟨g2, off2, rfl, -, hc2⟩ := HB.out j hj2
      rw [← HW.out] at hc1 hc2
      generalize zs[j] = z at hc1 hc2
      go_wp2
      go_region
      all_goals
        go_wp2
        go_roundw
        case rel => exact ⟨j + 1, by omega, by go_num, hb.drew, fun p => HW.out p⟩
        case measure => simp [intOf]; omega
    · go_wp2
      go_ret
      exact ⟨rfl, hb⟩

theorem eqStringS_calls (w : World) (B C : Nat) (v u : Value) (zs ys : List (List UInt8)) (h1 : ownS w B v zs) (h2 : ownS w C u ys) (hz : zs.length ≤ 16777216) (he : zs = ys) :
    Calls Tryd.prog 35 #[v, u] w fun e w' => e = .returned (.bool true) ∧ Below w.heap.size w w' := by
  subst he
  obtain ⟨a, cap, rfl, HA⟩ := rdS_own h1
  obtain ⟨b, cap2, rfl, HB⟩ := rdS_own h2
  exact eqStringS_rd w a b cap cap2 zs HA.out HB.out hz

end Go.Proofs.YtcjpepdagnifiaaDoor
