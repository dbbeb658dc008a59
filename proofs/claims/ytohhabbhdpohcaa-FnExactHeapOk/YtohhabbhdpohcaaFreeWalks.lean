/- What spec.FreeSlot and impl.FreeSlot answer. -/
import Derived.Test.YtohhabbhdpohcaaISlotWalks
namespace Go.Proofs.Ytohhabbhdpohcaa
open Go.RowKit
set_option linter.unusedVariables false
set_option maxRecDepth 100000

def freeL : List ObjD → Int → Int
  | [], _ => -1
  | o :: r, i => if o.live = false ∧ o.gen < 999 then i else freeL r (i + 1)
/-- The lowest slot that is not live and of a generation below the last. -/
def freeZ (H : HeapD) : Int := freeL (H.objs.take 8) 0
theorem freeL_at (os : List ObjD) (j : Nat) (h : j < os.length) : freeL (os.drop j) (j : Int) = if os[j].live = false ∧ os[j].gen < 999 then (j : Int) else freeL (os.drop (j + 1)) ((j + 1 : Nat) : Int) := by
  rw [List.drop_eq_getElem_cons h]; simp [freeL]

/-- What one round over the slots has: the object there, or none. -/
theorem free_step (H : HeapD) (j : Nat) (h : j < H.objs.length) (h8 : j < 8) (o : ObjD) (ho : H.objs[j] = o) :
    freeL ((H.objs.take 8).drop j) (j : Int) = if o.live = false ∧ o.gen < 999 then (j : Int) else freeL ((H.objs.take 8).drop (j + 1)) ((j + 1 : Nat) : Int) := by
  rw [freeL_at (H.objs.take 8) j (by rw [List.length_take]; omega), List.getElem_take, ho]
theorem free_end (H : HeapD) (j : Nat) (h : H.objs.length ≤ j ∨ 8 ≤ j) (i : Int) : freeL ((H.objs.take 8).drop j) i = -1 := by
  rw [List.drop_eq_nil_of_le (by rw [List.length_take]; omega)]; rfl

theorem sFreeSlot_calls (v : Value) (H : HeapD) (w : World) (h : RdH w v H) (hs : SmallH H) :
    Calls Try.prog 117 #[v] w fun e w' => e = .returned (.int .i64 (freeZ H)) ∧ Below w.heap.size w w' := by
  obtain ⟨ao, co, aw, cw, ab, cb, sa, sc, rfl, ro, -, -, -⟩ := h
  have hn := hs.objs
  clear hs
  obtain ⟨W, hW⟩ : ∃ W, W = w.alloc (.cells #[.slice ao H.objs.length co, .slice aw H.weaks.length cw, .slice ab H.buffer.length cb, .slice sa H.sites.length sc] 29) := ⟨_, rfl⟩
  have BW : Below w.heap.size w W := by rw [hW]; exact (Below.refl _ _).alloc (Nat.le_refl _) _
  have HR : Hid (RdO W ao H.objs) := rdO_later ro BW
  have hp : W.cell? ⟨w.heap.size, 0, none⟩ = some (.slice ao H.objs.length co) := by rw [hW, World.cell?_alloc_mark]; rfl
  have H0 : Hid (freeZ H = freeL ((H.objs.take 8).drop 0) ((0 : Nat) : Int)) := by show _ = _; unfold freeZ; rw [List.drop_zero]; rfl
  have HS : Hid (∀ (j : Nat) (h : j < H.objs.length), j < 8 → ∀ o, H.objs[j] = o → freeL ((H.objs.take 8).drop j) (j : Int) = _) := fun j h h8 o ho => free_step H j h h8 o ho
  have HN : Hid (∀ (j : Nat), H.objs.length ≤ j ∨ 8 ≤ j → freeL ((H.objs.take 8).drop j) (j : Int) = -1) := fun j h => free_end H j h _
  generalize freeZ H = z at *
  obtain ⟨n, hnn⟩ : ∃ n, H.objs.length = n := ⟨_, rfl⟩
  have Hn : Hid (H.objs.length = n) := hnn
  rw [hnn] at hn hp hW ⊢
  clear ro hnn
  go_enter Try.func117, Try.ntmps117
  go_wp2
  rw [← hW]
  clear hW
  go_loop [3] (fun i => ∃ j : Nat, j ≤ n ∧ j ≤ 8 ∧ i = .int .i64 j ∧ Hid (z = freeL ((H.objs.take 8).drop j) (j : Int))) (fun i => n - (intOf i).toNat)
  case atStart => exact ⟨0, by omega, by omega, rfl, H0⟩
  case round =>
    obtain ⟨j, hj, hj8, rfl, HJ⟩ := hrel
    by_cases hlt : j < n
    · by_cases hlt8 : j < 8
      · have hj2 : j < H.objs.length := by have := Hn.out; omega
        obtain ⟨g, off, f, fc, rfl, -, hc, -⟩ := HR.out j hj2
        obtain ⟨o, ho⟩ : ∃ o, H.objs[j] = o := ⟨_, rfl⟩
        have HD : Hid (_ = _) := HS.out j hj2 hlt8 o ho
        rw [ho] at hc
        obtain ⟨c0, c1, -⟩ := hc
        clear ho
        cases hlv : o.live with
        | true =>
          have HZ : Hid (z = freeL ((H.objs.take 8).drop (j + 1)) ((j + 1 : Nat) : Int)) := by show _ = _; rw [HJ.out, HD.out, if_neg (by simp [hlv])]
          rw [hlv] at c0
          clear HD hlv
          generalize o.gen = og at *
          go_wp2
          go_round
          case rel => exact ⟨j + 1, by omega, by omega, by go_num, HZ⟩
          case measure => simp [intOf]; omega
        | false =>
          by_cases hg : o.gen < 999
          · have HZ : Hid (z = (j : Int)) := by show _ = _; rw [HJ.out, HD.out, if_pos ⟨hlv, hg⟩]
            rw [hlv] at c0
            clear HD hlv
            generalize o.gen = og at *
            go_wp2
            go_ret
            exact ⟨ret_zz HZ.out.symm, BW⟩
          · have HZ : Hid (z = freeL ((H.objs.take 8).drop (j + 1)) ((j + 1 : Nat) : Int)) := by show _ = _; rw [HJ.out, HD.out, if_neg (by simp [hg])]
            have hg2 : 999 ≤ o.gen := by omega
            rw [hlv] at c0
            clear HD hlv hg
            generalize o.gen = og at *
            go_wp2
            go_round
            case rel => exact ⟨j + 1, by omega, by omega, by go_num, HZ⟩
            case measure => simp [intOf]; omega
      · obtain rfl : j = 8 := by omega
        have HZ : Hid (z = -1) := by show _ = _; rw [HJ.out, HN.out 8 (.inr (by omega))]
        go_wp2
        go_ret
        exact ⟨ret_zz HZ.out.symm, BW⟩
    · obtain rfl : j = n := by omega
      have HZ : Hid (z = -1) := by show _ = _; rw [HJ.out, HN.out j (.inl (by have := Hn.out; omega))]
      go_wp2
      go_ret
      exact ⟨ret_zz HZ.out.symm, BW⟩

theorem cells_idxs (g off n : Nat) : ∃ x, cellsV g off n = .agg x ∧ ∀ s : Nat, s < 8 → ∀ X : World, (Instr.index 80 (.agg x) (.int .i64 (s : Int))).run Try.prog X = .ok (.pointer (cellA g off n s)) X :=
  ⟨_, rfl, fun s hs X => by obtain ⟨x, hx, h⟩ := cells_idx g off n s hs; unfold cellsV at hx; injection hx with hx; subst hx; exact h X⟩

end Go.Proofs.Ytohhabbhdpohcaa
