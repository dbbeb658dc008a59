/- What l1Spoil does where it turns a byte; and what it does at all. -/
import Derived.Test.YtmpbmagbbnlhaaaDraw5Walks
import Derived.Deep.RegionHeld
namespace Go.Proofs.Ytmpbmagbbnlhaaa
open Go.RowKit
set_option linter.unusedVariables false

variable {B : Nat} {a : Option Addr} {cap : Nat} {L : List UInt8} {g : Nat} {s : Nat × Int} {w : World}

set_option maxRecDepth 100000 in
set_option maxHeartbeats 1000000 in
theorem spoil_turn (t : List UInt8) (ht : t.length ≤ 1000) (hpos : 1 ≤ t.length) (hch : 2 < bl L (blS L s t.length) 4) (d : Dr B a cap L g s w) :
    Calls Try.prog 31 #[.pointer (some ⟨g, 0, none⟩), .string (txt t)] w fun e w' => e = .returned (.string (txt (spoil L s t))) ∧ Dr B a cap L g (spoilS L s t) w' ∧ w.grownBy w' (some g) := by
  have D : Hid (Dr B a cap L g s w) := d
  clear d
  have hts : (txt t).size ≤ 1000 := ht
  have h0 : ¬ t.length = 0 := by omega
  have q0 : (((txt t).size : Int) == 0) = false := by rw [txt_size, beq_eq_false_iff_ne]; omega
  have b0 := bl_bd L s t.length hpos
  obtain ⟨k, hk⟩ := Int.eq_ofNat_of_zero_le b0.1
  have hkl : k < (txt t).size := by rw [txt_size]; omega
  obtain ⟨s1, hs1⟩ : ∃ s1, blS L s t.length = s1 := ⟨_, rfl⟩
  obtain ⟨c, hc⟩ : ∃ c, bl L s1 4 = c := ⟨_, rfl⟩
  obtain ⟨s2, hs2⟩ : ∃ s2, blS L s1 4 = s2 := ⟨_, rfl⟩
  have hkn : (bl L s t.length).toNat = k := by rw [hk]; rfl
  have HV : Hid (spoil L s t = if c = 0 then t.take k ++ t.drop (k + 1) else if c = 1 then (t.take k ++ [UInt8.ofNat (nb L s2).toNat]) ++ t.drop k else if c = 2 then t.take k else (t.take k ++ [UInt8.ofNat (xorB (t[k]?.getD 0) (bl L s2 255)).toNat]) ++ t.drop (k + 1)) := by
    show _ = _; unfold spoil; rw [if_neg h0, hkn, hs1, hc, hs2]
  have HW : Hid (spoilS L s t = if c = 0 then s2 else if c = 1 then nbS L s2 else if c = 2 then s2 else blS L s2 255) := by
    show _ = _; unfold spoilS; rw [if_neg h0, hs1, hc, hs2]
  have C1 : Hid (∀ w, Dr B a cap L g s w → _) := fun w d => below_calls t.length hpos (by omega) (w := w) d
  rw [hk, hs1] at C1
  have C2 : Hid (∀ w, Dr B a cap L g s1 w → _) := fun w d => below_calls 4 (by omega) (by omega) (w := w) d
  rw [hc, hs2] at C2
  have hc2 : 2 < c := by rw [hs1, hc] at hch; exact hch
  clear hch
  clear h0 hkn hs1 hc hs2 hk b0
  have nbb := nb_bd L s2
  go_enter Try.func31, Try.ntmps31
  go_wp2_with fail
  refine (C1.out _ D.out).mono ?_
  rintro e w1 ⟨rfl, D1, G1⟩
  go_wp2_with fail
  refine (C2.out _ D1).mono ?_
  rintro e w2 ⟨rfl, D2, G2⟩
  have GG := grown_trans G1 G2
  have e1 : (k : Int).toNat = k := by omega
  have e2 : IntKind.i64.wrap ((k : Int) + 1) = (k : Int) + 1 := by rw [IntKind.wrap_i64]; omega
  have e3 : ((k : Int) + 1).toNat = k + 1 := by omega
  rw [if_neg (by omega), if_neg (by omega), if_neg (by omega)] at HV HW
  have p0 : (c == 0) = false := by rw [beq_eq_false_iff_ne]; omega
  have p1 : (c == 1) = false := by rw [beq_eq_false_iff_ne]; omega
  have p2 : (c == 2) = false := by rw [beq_eq_false_iff_ne]; omega
  have b5 := bl_bd L s2 255 (by omega)
  obtain ⟨y, hy⟩ : ∃ y, bl L s2 255 = y := ⟨_, rfl⟩
  have C3 : Hid (∀ w, Dr B a cap L g s2 w → _) := fun w d => below_calls 255 (by omega) (by omega) (w := w) d
  rw [hy] at C3 HV b5
  clear hy hc2
  obtain ⟨bk, hbk⟩ : ∃ bk, (txt t)[k] = bk := ⟨_, rfl⟩
  have HK : Hid ((txt t)[k] = bk) := hbk
  have HK2 : Hid (t[k]?.getD 0 = bk) := by
    show _ = _
    have hl : k < t.length := hkl
    rw [List.getElem?_eq_getElem hl, ← hbk]; rfl
  have hq := UInt8.toNat_lt bk
  have e5 : IntKind.i64.wrap (bk.toNat : Int) = (bk.toNat : Int) := by rw [IntKind.wrap_i64]; omega
  have e6 : IntKind.i64.wrap (1 + y) = 1 + y := by rw [IntKind.wrap_i64]; omega
  have e7 : IntKind.u8.wrap (bits .xor .i64 (bk.toNat : Int) (1 + y)) = xorB bk y := by rw [IntKind.wrap_u8]; rfl
  have e8 : bits .xor .i64 (bk.toNat : Int) (1 + y) % 256 = xorB bk y := rfl
  have hcv := fun W => conv_one (P := Try.prog) 22 9 5 Try.underlying22 Try.underlying5 Try.underlying9 W (xorB bk y) (xorB_bd bk y).1 (xorB_bd bk y).2
  have hone : (txt [UInt8.ofNat (xorB bk y).toNat]).size ≤ 1 := by rw [txt_size]; exact Nat.le_refl 1
  have i1 : (0 : Int) ≤ (k : Int) := by omega
  have i2 : (k : Int) ≤ ((txt t).size : Int) := by omega
  have i3 : (0 : Int) ≤ (k : Int) + 1 := by omega
  have i4 : (k : Int) + 1 ≤ ((txt t).size : Int) := by omega
  have i5 : (k : Int) < ((txt t).size : Int) := by omega
  go_wp2
  go_region_held (fun _ => True) (trivial) ((go_at_call 36; refine (C3.out _ (dr_drew D2)).mono ?_; rintro e w3 ⟨rfl, D3, G3⟩))
  all_goals
    go_wp2
    go_ret
    exact ⟨ret_str (by rw [HV.out, HK2.out, ext_to, ext_from, txt_append, txt_append]), by rw [HW.out]; exact dr_alloc _ D3, grown_alloc _ (grown_trans (grown_drew GG) G3)⟩

theorem spoil_calls (t : List UInt8) (ht : t.length ≤ 1000) (d : Dr B a cap L g s w) :
    Calls Try.prog 31 #[.pointer (some ⟨g, 0, none⟩), .string (txt t)] w fun e w' => e = .returned (.string (txt (spoil L s t))) ∧ Dr B a cap L g (spoilS L s t) w' ∧ w.grownBy w' (some g) := by
  by_cases h : t.length = 0 ∨ bl L (blS L s t.length) 4 ≤ 2
  · exact spoil_few t ht h d
  · exact spoil_turn t ht (by omega) (by omega) d

end Go.Proofs.Ytmpbmagbbnlhaaa
