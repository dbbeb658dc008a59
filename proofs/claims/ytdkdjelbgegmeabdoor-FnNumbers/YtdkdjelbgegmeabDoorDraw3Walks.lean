/- What l1PickInt and l1Num do. -/
import Derived.Test.YtdkdjelbgegmeabDoorDraw2Walks
import Derived.Laws.IdiomStrings
namespace Go.Proofs.YtdkdjelbgegmeabDoor
open Go.RowKit
set_option linter.unusedVariables false

variable {B : Nat} {a : Option Addr} {cap : Nat} {L : List UInt8} {g : Nat} {s : Nat × Int} {w : World}

theorem pick_calls (p m : Nat) (zs : List Int) (hz : ∀ k, k < m → w.cell? ⟨p, k, none⟩ = some (.int .i64 (zs.getD k 0))) (hp : p ≠ g) (hm : 1 ≤ m) (hm2 : m ≤ 1000) (d : Dr B a cap L g s w) :
    Calls Tryd.prog 27 #[.pointer (some ⟨g, 0, none⟩), .slice (some ⟨p, 0, none⟩) m m] w fun e w' => e = .returned (.int .i64 (pickZ zs (bl L s m))) ∧ Dr B a cap L g (blS L s m) w' ∧ w.grownBy w' (some g) := by
  have D : Hid (Dr B a cap L g s w) := d
  have hb := bl_bd L s m hm
  have HZ : Hid (w.cell? ⟨p, (bl L s m).toNat, none⟩ = some (.int .i64 (pickZ zs (bl L s m)))) := hz _ (by omega)
  clear d hz
  go_enter Tryd.func27, Tryd.ntmps27
  go_wp2_with fail
  refine (below_calls m hm (by omega) D.out).mono ?_
  rintro e w1 ⟨rfl, D1, G1⟩
  have hz1 := G1.cell HZ.out (by simpa using hp)
  go_wp2
  go_ret
  exact ⟨rfl, D1, G1⟩

theorem nums_row (w : World) (k : Nat) (hk : k < 17) : (w.alloc (.cells (nums.map (Value.int .i64)).toArray 3)).cell? ⟨w.heap.size, k, none⟩ = some (.int .i64 (nums.getD k 0)) := by
  rw [World.cell?_alloc_mark, List.getElem?_toArray, List.getElem?_map]
  have h : k < nums.length := hk
  rw [List.getD_eq_getElem?_getD, List.getElem?_eq_getElem h]
  rfl

theorem grown_alloc {w w1 : World} {g : Nat} (o : Obj) (h1 : w.grownBy w1 (some g)) : w.grownBy (w1.alloc o) (some g) := grown_trans h1 (World.grownBy_alloc w1 o (some g))
theorem dr_alloc (o : Obj) (d : Dr B a cap L g s w) : Dr B a cap L g s (w.alloc o) := by
  have hlt : g < w.heap.size := (Array.getElem?_eq_some_iff.1 d.cur).1
  refine d.on d.used ?_ (World.grownBy_alloc w o (some g))
  show (w.heap.push o)[g]? = _
  rw [Array.getElem?_push_lt hlt]
  have := d.cur
  unfold CurAt at this
  rw [Array.getElem?_eq_getElem hlt] at this
  exact this
theorem dr_ne (d : Dr B a cap L g s w) : w.heap.size ≠ g := by
  have hlt : g < w.heap.size := (Array.getElem?_eq_some_iff.1 d.cur).1
  omega

set_option maxRecDepth 100000 in
theorem num_calls (d : Dr B a cap L g s w) :
    Calls Tryd.prog 17 #[.pointer (some ⟨g, 0, none⟩)] w fun e w' => e = .returned (.int .i64 (num L s)) ∧ Dr B a cap L g (numS L s) w' ∧ w.grownBy w' (some g) := by
  have D : Hid (Dr B a cap L g s w) := d
  clear d
  have hb := bl_bd L s 8 (by omega)
  go_enter Tryd.func17, Tryd.ntmps17
  go_wp2_with fail
  refine (below_calls 8 (by omega) (by omega) D.out).mono ?_
  rintro e w1 ⟨rfl, D1, G1⟩
  by_cases h0 : bl L s 8 = 0
  · have HV : Hid (num L s = pickZ nums (bl L (blS L s 8) 17)) := by show _ = _; unfold num; rw [if_pos h0]
    have HW : Hid (numS L s = blS L (blS L s 8) 17) := by show _ = _; unfold numS; rw [if_pos h0]
    have q0 : (bl L s 8 == 0) = true := by rw [h0]; rfl
    clear h0
    go_wp2_with fail
    refine (pick_calls w1.heap.size 17 nums (fun k hk => nums_row w1 k hk) (dr_ne D1) (by omega) (by omega) (dr_alloc _ D1)).mono ?_
    rintro e w2 ⟨rfl, D2, G2⟩
    go_wp2
    go_ret
    exact ⟨ret_int1 HV.out.symm, by rw [HW.out]; exact D2, grown_trans (grown_alloc _ G1) G2⟩
  · have q0 : (bl L s 8 == 0) = false := by rw [beq_eq_false_iff_ne]; exact h0
    by_cases h1 : bl L s 8 = 1
    · have HV : Hid (num L s = bl L (blS L s 8) 1000000000 * bl L (blS L (blS L s 8) 1000000000) 1000000000) := by show _ = _; unfold num; rw [if_neg h0, if_pos h1]
      have HW : Hid (numS L s = blS L (blS L (blS L s 8) 1000000000) 1000000000) := by show _ = _; unfold numS; rw [if_neg h0, if_pos h1]
      have q1 : (bl L s 8 == 1) = true := by rw [h1]; rfl
      have HB := num_bd L s
      rw [HV.out] at HB
      have HE : Hid (wrap64 (bl L (blS L s 8) 1000000000 * bl L (blS L (blS L s 8) 1000000000) 1000000000) = _) := IntWalk.wrap64_in _ HB
      clear h0 h1 HB
      go_wp2_with fail
      refine (below_calls 1000000000 (by omega) (by omega) D1).mono ?_
      rintro e w2 ⟨rfl, D2, G2⟩
      go_wp2_with fail
      refine (below_calls 1000000000 (by omega) (by omega) D2).mono ?_
      rintro e w3 ⟨rfl, D3, G3⟩
      go_wp2
      go_ret
      exact ⟨ret_int1 (HE.out.trans HV.out.symm), by rw [HW.out]; exact D3, grown_trans (grown_trans G1 G2) G3⟩
    · have q1 : (bl L s 8 == 1) = false := by rw [beq_eq_false_iff_ne]; exact h1
      by_cases h2 : bl L s 8 = 2
      · have HV : Hid (num L s = -(bl L (blS L s 8) 100000)) := by show _ = _; unfold num; rw [if_neg h0, if_neg h1, if_pos h2]
        have HW : Hid (numS L s = blS L (blS L s 8) 100000) := by show _ = _; unfold numS; rw [if_neg h0, if_neg h1, if_pos h2]
        have q2 : (bl L s 8 == 2) = true := by rw [h2]; rfl
        have b3 := bl_bd L (blS L s 8) 100000 (by omega)
        clear h0 h1 h2
        go_wp2_with fail
        refine (below_calls 100000 (by omega) (by omega) D1).mono ?_
        rintro e w2 ⟨rfl, D2, G2⟩
        go_wp2
        go_ret
        exact ⟨ret_int1 HV.out.symm, by rw [HW.out]; exact D2, grown_trans G1 G2⟩
      · have HV : Hid (num L s = bl L (blS L s 8) 70000) := by show _ = _; unfold num; rw [if_neg h0, if_neg h1, if_neg h2]
        have HW : Hid (numS L s = blS L (blS L s 8) 70000) := by show _ = _; unfold numS; rw [if_neg h0, if_neg h1, if_neg h2]
        have q2 : (bl L s 8 == 2) = false := by rw [beq_eq_false_iff_ne]; exact h2
        clear h0 h1 h2
        go_wp2_with fail
        refine (below_calls 70000 (by omega) (by omega) D1).mono ?_
        rintro e w2 ⟨rfl, D2, G2⟩
        go_wp2
        go_ret
        exact ⟨ret_int1 HV.out.symm, by rw [HW.out]; exact D2, grown_trans G1 G2⟩

end Go.Proofs.YtdkdjelbgegmeabDoor
