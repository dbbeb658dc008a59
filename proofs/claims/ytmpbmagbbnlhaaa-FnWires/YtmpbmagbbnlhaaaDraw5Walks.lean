/- What l1Spoil does. -/
import Derived.Test.YtmpbmagbbnlhaaaDraw4Walks
import Derived.Deep.RegionWith
namespace Go.Proofs.Ytmpbmagbbnlhaaa
open Go.RowKit
set_option linter.unusedVariables false

variable {B : Nat} {a : Option Addr} {cap : Nat} {L : List UInt8} {g : Nat} {s : Nat × Int} {w : World}

theorem ext_txt (t : List UInt8) (x y : Nat) : (txt t).extract x y = txt ((t.drop x).take (y - x)) := ByteArray.extract_mk t x y
theorem ext_to (t : List UInt8) (k : Nat) : (txt t).extract 0 k = txt (t.take k) := by rw [ext_txt]; simp
theorem ext_from (t : List UInt8) (k : Nat) : (txt t).extract k (txt t).size = txt (t.drop k) := by
  rw [ext_txt, txt_size, List.take_of_length_le (by rw [List.length_drop]; omega)]

theorem dr_drewN (n : Nat) (d : Dr B a cap L g s w) : Dr B a cap L g s (w.drewN n) := ⟨d.small, d.used, d.code, d.cur, d.above⟩
theorem dr_drew (d : Dr B a cap L g s w) : Dr B a cap L g s w.drew := ⟨d.small, d.used, d.code, d.cur, d.above⟩
theorem grown_drew {w1 : World} (h1 : w.grownBy w1 (some g)) : w.grownBy w1.drew (some g) := ⟨h1.os, h1.tape, h1.output, h1.size, h1.block⟩

set_option maxRecDepth 100000 in
set_option maxHeartbeats 400000 in
theorem spoil_few (t : List UInt8) (ht : t.length ≤ 1000) (hch : t.length = 0 ∨ bl L (blS L s t.length) 4 ≤ 2) (d : Dr B a cap L g s w) :
    Calls Try.prog 31 #[.pointer (some ⟨g, 0, none⟩), .string (txt t)] w fun e w' => e = .returned (.string (txt (spoil L s t))) ∧ Dr B a cap L g (spoilS L s t) w' ∧ w.grownBy w' (some g) := by
  have D : Hid (Dr B a cap L g s w) := d
  clear d
  have hts : (txt t).size ≤ 1000 := ht
  by_cases h0 : t.length = 0
  · have q0 : (((txt t).size : Int) == 0) = true := by rw [txt_size, h0]; rfl
    have HV : Hid (spoil L s t = text L s 3) := by show _ = _; unfold spoil; rw [if_pos h0]
    have HW : Hid (spoilS L s t = textS L s 3) := by show _ = _; unfold spoilS; rw [if_pos h0]
    clear h0
    go_enter Try.func31, Try.ntmps31
    go_wp2_with fail
    refine (text_calls 3 (by omega) D.out).mono ?_
    rintro e w1 ⟨rfl, D1, G1⟩
    go_wp2
    go_ret
    exact ⟨ret_str (by rw [HV.out]), by rw [HW.out]; exact D1, G1⟩
  · have hpos : 1 ≤ t.length := by omega
    have q0 : (((txt t).size : Int) == 0) = false := by rw [txt_size, beq_eq_false_iff_ne]; omega
    have b0 := bl_bd L s t.length hpos
    obtain ⟨k, hk⟩ := Int.eq_ofNat_of_zero_le b0.1
    have hkl : k < (txt t).size := by rw [txt_size]; omega
    obtain ⟨s1, hs1⟩ : ∃ s1, blS L s t.length = s1 := ⟨_, rfl⟩
    obtain ⟨c, hc⟩ : ∃ c, bl L s1 4 = c := ⟨_, rfl⟩
    obtain ⟨s2, hs2⟩ : ∃ s2, blS L s1 4 = s2 := ⟨_, rfl⟩
    have hkn : (bl L s t.length).toNat = k := by rw [hk]; rfl
    have HV : Hid (spoil L s t = if c = 0 then t.take k ++ t.drop (k + 1) else if c = 1 then (t.take k ++ [UInt8.ofNat (nb L s2).toNat]) ++ t.drop k else if c = 2 then t.take k else (t.take k ++ [UInt8.ofNat (xorB (t[k]?.getD 0) (bl L s2 255)).toNat]) ++ t.drop (k + 1)) := by
      show _ = _; unfold spoil; rw [if_neg h0, hkn, hs1, hc, hs2]
    have HW : Hid (spoilS L s t = if c = 0 then s2 else if c = 1 then nbS L s2 else if c = 2 then s2 else blS L s2 255) := by
      show _ = _; unfold spoilS; rw [if_neg h0, hs1, hc, hs2]
    have C1 : Hid (∀ w, Dr B a cap L g s w → _) := fun w d => below_calls t.length hpos (by omega) (w := w) d
    rw [hk, hs1] at C1
    have C2 : Hid (∀ w, Dr B a cap L g s1 w → _) := fun w d => below_calls 4 (by omega) (by omega) (w := w) d
    rw [hc, hs2] at C2
    have hc2 : c ≤ 2 := by rcases hch with h | h
                           · omega
                           · rw [hs1, hc] at h; exact h
    have hc3 : 0 ≤ c := by rw [← hc]; exact (bl_bd L s1 4 (by omega)).1
    clear hch
    clear h0 hkn hs1 hc hs2 hk b0
    have nbb := nb_bd L s2
    go_enter Try.func31, Try.ntmps31
    go_wp2_with fail
    refine (C1.out _ D.out).mono ?_
    rintro e w1 ⟨rfl, D1, G1⟩
    go_wp2_with fail
    refine (C2.out _ D1).mono ?_
    rintro e w2 ⟨rfl, D2, G2⟩
    have GG := grown_trans G1 G2
    have e1 : (k : Int).toNat = k := by omega
    have e2 : IntKind.i64.wrap ((k : Int) + 1) = (k : Int) + 1 := by rw [IntKind.wrap_i64]; omega
    have e3 : ((k : Int) + 1).toNat = k + 1 := by omega
    by_cases c0 : c = 0
    · have p0 : (c == 0) = true := by rw [c0]; rfl
      rw [if_pos c0] at HV HW
      clear c0
      go_wp2
      go_quiet (fail)
      go_wp2
      go_ret
      exact ⟨ret_str (by rw [HV.out, ext_to, ext_from, txt_append]), by rw [HW.out]; exact dr_drewN _ D2, grown_drewN _ GG⟩
    · have p0 : (c == 0) = false := by rw [beq_eq_false_iff_ne]; exact c0
      rw [if_neg c0] at HV HW
      by_cases c1 : c = 1
      · have p1 : (c == 1) = true := by rw [c1]; rfl
        rw [if_pos c1] at HV HW
        clear c1
        have e4 : IntKind.u8.wrap (nb L s2) = nb L s2 := by rw [IntKind.wrap_u8]; omega
        have hcv := fun W => conv_one (P := Try.prog) 22 9 5 Try.underlying22 Try.underlying5 Try.underlying9 W (nb L s2) (by omega) (by omega)
        have hone : (txt [UInt8.ofNat (nb L s2).toNat]).size ≤ 1 := by rw [txt_size]; exact Nat.le_refl 1
        go_wp2
        go_region_with (go_at_call 38; refine (byte_calls (dr_drew D2)).mono ?_; rintro e w3 ⟨rfl, D3, G3⟩)
        all_goals
          go_wp2
          go_ret
          exact ⟨ret_str (by rw [HV.out, ext_to, ext_from, txt_append, txt_append]), by rw [HW.out]; exact dr_alloc _ D3, grown_alloc _ (grown_trans (grown_drew GG) G3)⟩
      · have p1 : (c == 1) = false := by rw [beq_eq_false_iff_ne]; exact c1
        rw [if_neg c1] at HV HW
        by_cases c2 : c = 2
        · have p2 : (c == 2) = true := by rw [c2]; rfl
          rw [if_pos c2] at HV HW
          clear c2
          go_wp2
          go_ret
          exact ⟨ret_str (by rw [HV.out, ext_to]), by rw [HW.out]; exact D2, GG⟩
        · have p2 : (c == 2) = false := by rw [beq_eq_false_iff_ne]; exact c2
          omega

end Go.Proofs.Ytmpbmagbbnlhaaa
