/- What spec.FreeSlot and impl.FreeSlot answer. -/
import Derived.Test.YtjhdnachbahbmaaISlotWalks
namespace Go.Proofs.Ytjhdnachbahbmaa
open Go.RowKit
set_option linter.unusedVariables false
set_option maxRecDepth 100000

def freeL : List ObjD → Int → Int
  | [], _ => -1
  | o :: r, i => if o.live = false ∧ o.gen < 999 then i else freeL r (i + 1)
/-- The lowest slot that is not live and of a generation below the last. -/
def freeZ (H : HeapD) : Int := freeL (H.objs.take 8) 0
theorem freeL_at (os : List ObjD) (j : Nat) (h : j < os.length) : freeL (os.drop j) (j : Int) = if os[j].live = false ∧ os[j].gen < 999 then (j : Int) else freeL (os.drop (j + 1)) ((j + 1 : Nat) : Int) := by
  rw [List.drop_eq_getElem_cons h]; simp [freeL]

/-- What one round over the slots has: the object there, or none. -/
theorem free_step (H : HeapD) (j : Nat) (h : j < H.objs.length) (h8 : j < 8) (o : ObjD) (ho : H.objs[j] = o) :
    freeL ((H.objs.take 8).drop j) (j : Int) = if o.live = false ∧ o.gen < 999 then (j : Int) else freeL ((H.objs.take 8).drop (j + 1)) ((j + 1 : Nat) : Int) := by
  rw [freeL_at (H.objs.take 8) j (by rw [List.length_take]; omega), List.getElem_take, ho]
theorem free_end (H : HeapD) (j : Nat) (h : H.objs.length ≤ j ∨ 8 ≤ j) (i : Int) : freeL ((H.objs.take 8).drop j) i = -1 := by
  rw [List.drop_eq_nil_of_le (by rw [List.length_take]; omega)]; rfl

theorem cells_idxs (g off n : Nat) : ∃ x, cellsV g off n = .agg x ∧ ∀ s : Nat, s < 8 → ∀ X : World, (Instr.index 47 (.agg x) (.int .i64 (s : Int))).run Try.prog X = .ok (.pointer (cellA g off n s)) X :=
  ⟨_, rfl, fun s hs X => by obtain ⟨x, hx, h⟩ := cells_idx g off n s hs; unfold cellsV at hx; injection hx with hx; subst hx; exact h X⟩

theorem iFreeSlot_calls (v : Value) (H : HeapD) (w : World) (h : RdH w v H) (hs : SmallH H) :
    Calls Try.prog 40 #[v] w fun e w' => e = .returned (.int .i64 (freeZ H)) ∧ Below w.heap.size w w' := by
  obtain ⟨ao, co, aw, cw, ab, cb, sa, sc, rfl, ro, -, -, -⟩ := h
  have hn := hs.objs
  clear hs
  obtain ⟨W, hW⟩ : ∃ W, W = w.alloc (.cells #[.slice ao H.objs.length co, .slice aw H.weaks.length cw, .slice ab H.buffer.length cb, .slice sa H.sites.length sc] 33) := ⟨_, rfl⟩
  have BW : Below w.heap.size w W := by rw [hW]; exact (Below.refl _ _).alloc (Nat.le_refl _) _
  have HR : Hid (RdO W ao H.objs) := rdO_later ro BW
  have H0 : Hid (freeZ H = freeL ((H.objs.take 8).drop 0) ((0 : Nat) : Int)) := by show _ = _; unfold freeZ; rw [List.drop_zero]; rfl
  have HS : Hid (∀ (j : Nat) (h : j < H.objs.length), j < 8 → ∀ o, H.objs[j] = o → freeL ((H.objs.take 8).drop j) (j : Int) = _) := fun j h h8 o ho => free_step H j h h8 o ho
  have HN : Hid (∀ (j : Nat) (i : Int), H.objs.length ≤ j ∨ 8 ≤ j → freeL ((H.objs.take 8).drop j) i = -1) := fun j i h => free_end H j h i
  generalize freeZ H = z at *
  have hex : ∃ g off, 0 < H.objs.length → ao = some ⟨g, off, none⟩ := by
    by_cases h0 : 0 < H.objs.length
    · obtain ⟨g, off, f, fc, ha, -⟩ := ro 0 h0
      exact ⟨g, off, fun _ => ha⟩
    · exact ⟨0, 0, fun h => absurd h h0⟩
  obtain ⟨g, off, ha⟩ := hex
  have HA : Hid (0 < H.objs.length → ao = some ⟨g, off, none⟩) := ha
  have CC : Hid (∀ X : World, _) := fun X => cellsOf_calls X ao H.objs.length co (.slice aw H.weaks.length cw) (.slice ab H.buffer.length cb) (.slice sa H.sites.length sc) hn g off ha ⟨_, _, _, _, _, _, _, _, _, rfl, rfl, rfl⟩
  obtain ⟨x, hx, hxs⟩ := cells_idxs g off H.objs.length
  have HX : Hid (∀ s : Nat, s < 8 → ∀ X : World, (Instr.index 47 (.agg x) (.int .i64 (s : Int))).run Try.prog X = .ok (.pointer (cellA g off H.objs.length s)) X) := hxs
  rw [hx] at CC
  clear ro hx hxs ha
  go_enter Try.func40, Try.ntmps40
  go_wp2_with fail
  rw [← hW]
  clear hW
  refine (CC.out _).mono ?_
  rintro e w1 ⟨rfl, b1⟩
  have HR1 : Hid (RdO w1 ao H.objs) := rdO_later HR.out b1
  have B1 := BW.trans (b1.mono BW.size)
  clear b1 CC HR BW
  go_wp2
  go_loop [7] (fun i => ∃ j : Nat, j ≤ 8 ∧ i = .int .i64 j ∧ Hid (z = freeL ((H.objs.take 8).drop j) (j : Int))) (fun i => 8 - (intOf i).toNat)
  case atStart => exact ⟨0, by omega, rfl, H0⟩
  case round =>
    obtain ⟨j, hj8, rfl, HJ⟩ := hrel
    by_cases hlt8 : j < 8
    · have hix := HX.out j hlt8
      by_cases hj2 : j < H.objs.length
      · obtain ⟨g', off', f, fc, ha', -, hc, -⟩ := HR1.out j hj2
        rw [HA.out (by omega)] at ha'
        obtain ⟨rfl, rfl⟩ : g = g' ∧ off = off' := by simpa using ha'
        have hA : cellA g off H.objs.length j = some ⟨g, off + j * 8, none⟩ := by unfold cellA; rw [if_pos hj2]
        rw [hA] at hix
        obtain ⟨o, ho⟩ : ∃ o, H.objs[j] = o := ⟨_, rfl⟩
        have HD : Hid (_ = _) := HS.out j hj2 hlt8 o ho
        rw [ho] at hc
        obtain ⟨c0, c1, -⟩ := hc
        clear ho ha'
        cases hlv : o.live with
        | true =>
          have HZ : Hid (z = freeL ((H.objs.take 8).drop (j + 1)) ((j + 1 : Nat) : Int)) := by show _ = _; rw [HJ.out, HD.out, if_neg (by simp [hlv])]
          rw [hlv] at c0
          clear HD hlv
          generalize o.gen = og at *
          go_wp2
          go_round
          case rel => exact ⟨j + 1, by omega, by go_num, HZ⟩
          case measure => simp [intOf]; omega
        | false =>
          by_cases hg : o.gen < 999
          · have HZ : Hid (z = (j : Int)) := by show _ = _; rw [HJ.out, HD.out, if_pos ⟨hlv, hg⟩]
            rw [hlv] at c0
            clear HD hlv
            generalize o.gen = og at *
            go_wp2
            go_ret
            exact ⟨ret_zz HZ.out.symm, B1⟩
          · have HZ : Hid (z = freeL ((H.objs.take 8).drop (j + 1)) ((j + 1 : Nat) : Int)) := by show _ = _; rw [HJ.out, HD.out, if_neg (by simp [hg])]
            have hg2 : 999 ≤ o.gen := by omega
            rw [hlv] at c0
            clear HD hlv hg
            generalize o.gen = og at *
            go_wp2
            go_round
            case rel => exact ⟨j + 1, by omega, by go_num, HZ⟩
            case measure => simp [intOf]; omega
      · have hA : cellA g off H.objs.length j = none := by unfold cellA; rw [if_neg hj2]
        rw [hA] at hix
        have HZ : Hid (z = freeL ((H.objs.take 8).drop (j + 1)) ((j + 1 : Nat) : Int)) := by show _ = _; rw [HJ.out, HN.out j _ (.inl (by omega)), HN.out (j + 1) _ (.inl (by omega))]
        go_wp2
        go_round
        case rel => exact ⟨j + 1, by omega, by go_num, HZ⟩
        case measure => simp [intOf]; omega
    · obtain rfl : j = 8 := by omega
      have HZ : Hid (z = -1) := by show _ = _; rw [HJ.out, HN.out 8 _ (.inr (by omega))]
      go_wp2
      go_ret
      exact ⟨ret_zz HZ.out.symm, B1⟩

end Go.Proofs.Ytjhdnachbahbmaa
