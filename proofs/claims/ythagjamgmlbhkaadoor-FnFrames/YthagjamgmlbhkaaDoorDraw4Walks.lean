/- What l1Text does. -/
import Derived.Test.YthagjamgmlbhkaaDoorDraw3Walks
import Derived.Test.YthagjamgmlbhkaaDoorOwnB
namespace Go.Proofs.YthagjamgmlbhkaaDoor
open Go.RowKit
set_option linter.unusedVariables false

variable {B : Nat} {a : Option Addr} {cap : Nat} {L : List UInt8} {g : Nat} {s : Nat × Int} {w : World}

theorem dr_lt (d : Dr B a cap L g s w) : g < w.heap.size := (Array.getElem?_eq_some_iff.1 d.cur).1
theorem dr_below {X : Nat} {w' : World} (d : Dr B a cap L g s w) (hX : g < X) (hb : Below X w w') : Dr B a cap L g s w' := by
  refine ⟨d.small, d.used, ?_, ?_, d.above⟩
  · intro i hi
    obtain ⟨b, off, ha, hbB, hc⟩ := d.code i hi
    have h := d.above
    exact ⟨b, off, ha, hbB, (hb.cell (p := ⟨b, off + i, none⟩) (show b < X by omega)).trans hc⟩
  · unfold CurAt
    rw [hb.block g hX]
    exact d.cur
theorem grown_below {w1 w2 : World} (h1 : w.grownBy w1 (some g)) (hb : Below w.heap.size w1 w2) : w.grownBy w2 (some g) :=
  ⟨hb.os.trans h1.os, hb.tape.trans h1.tape, hb.output.trans h1.output, Nat.le_trans h1.size hb.size, fun k hk hne => (hb.block k hk).trans (h1.block k hk hne)⟩
theorem ownB_grown {X : Nat} {w1 w2 : World} {v : Value} {P : List UInt8} (h : ownB w1 X v P) (hg : w1.grownBy w2 (some g)) (hX : g < X) : ownB w2 X v P := by
  refine World.ownsRow.kept h hg ?_
  cases hv : v.ownBlock with
  | none => exact .inl rfl
  | some k =>
    have := (World.ownsRow.lt h k hv).1
    exact .inr (by intro e; have : k = g := by simpa using e
                   omega)

set_option maxRecDepth 100000 in
set_option maxHeartbeats 400000 in
theorem text_calls (most : Nat) (hm : most ≤ 1000) (d : Dr B a cap L g s w) :
    Calls Tryd.prog 53 #[.pointer (some ⟨g, 0, none⟩), .int .i64 (most : Int)] w fun e w' => e = .returned (.string (txt (text L s most))) ∧ Dr B a cap L g (textS L s most) w' ∧ w.grownBy w' (some g) := by
  have D : Hid (Dr B a cap L g s w) := d
  have hgw : g < w.heap.size := dr_lt d
  clear d
  have b1 := bl_bd L (blS L s 4) (most + 1) (by omega)
  have b0 := bl_bd L s 4 (by omega)
  go_enter Tryd.func53, Tryd.ntmps53
  go_wp2_with fail
  refine (below_calls 4 (by omega) (by omega) (dr_alloc _ D.out)).mono ?_
  rintro e w1 ⟨rfl, D1, G1⟩
  go_wp2_with fail
  rw [show ((most : Int) + 1) = ((most + 1 : Nat) : Int) from by omega]
  refine (below_calls (most + 1) (by omega) (by omega) D1).mono ?_
  rintro e w2 ⟨rfl, D2, G2⟩
  obtain ⟨n, hn⟩ := Int.eq_ofNat_of_zero_le b1.1
  obtain ⟨st, hst⟩ : ∃ st, bl L s 4 = st := ⟨_, rfl⟩
  obtain ⟨s2, hs2⟩ : ∃ s2, blS L (blS L s 4) (most + 1) = s2 := ⟨_, rfl⟩
  have HT : Hid (text L s most = txB L st n s2) := by show _ = _; unfold text; rw [hst, hs2, hn]; rfl
  have HTS : Hid (textS L s most = txS L n s2) := by show _ = _; unfold textS; rw [hs2, hn]; rfl
  rw [hn, hst]
  have hn9 : n ≤ 1000 := by omega
  have hO : ownB w2 w.heap.size (.slice (some ⟨w.heap.size, 0, none⟩) 0 0) [] := ownB_grown (ownB_grown (ownB_new w _ (Nat.le_refl _)) G1 hgw) G2 hgw
  have GG : w.grownBy w2 (some g) := grown_trans (grown_alloc _ (World.grownBy.refl _ _)) (grown_trans G1 G2)
  rw [hs2] at D2
  clear G1 G2 D1 hn b1 hs2 hst b0
  go_wp2
  go_loopw [5, 7, 8] (fun v x bb wr => ∃ (m : Nat) (P : List UInt8) (sx : Nat × Int), Hid (txB L st n s2 = P ++ txB L st m sx) ∧ Hid (txS L n s2 = txS L m sx) ∧ Hid (P.length + m = n) ∧ x = .int .i64 (m : Int) ∧ ownB wr w.heap.size v P ∧ Dr B a cap L g sx wr ∧ w.grownBy wr (some g)) (fun _ x _ _ => (intOf x).toNat)
  case atStart => exact ⟨n, [], s2, rfl, rfl, (by show 0 + n = n; omega), rfl, hO, D2, GG⟩
  case round =>
    obtain ⟨m, P, sx, H1, H2, H3, rfl, hown, dx, gx⟩ := hrel
    by_cases hp : 0 < m
    · obtain ⟨m, rfl⟩ : ∃ m', m = m' + 1 := ⟨m - 1, by omega⟩
      have hm9 : m ≤ 1000 := by have := H3.out; omega
      have bb := nb_bd L sx
      have HB : Hid (_ = _) := tb_toNat st (nb L sx) bb.1 bb.2
      go_wp2_with fail
      refine (byte_calls dx).mono ?_
      rintro e w3 ⟨rfl, D3, G3⟩
      have hown3 : ownB w3 w.heap.size u5 P := ownB_grown hown G3 hgw
      by_cases h1 : st = 1
      · have q1 : (st == 1) = true := by rw [h1]; rfl
        have q2 : (st == 2) = false := by rw [h1]; rfl
        have HE : Hid (nb L sx % 2 = ((tb st (nb L sx)).toNat : Int)) := by show _ = _; rw [← HB.out]; unfold tbZ; rw [if_pos h1]
        clear h1
        go_wp2_with (at_builtin; refine wpList_appendB rfl _ _ rfl w.heap.size _ P rfl (ownB_alloc _ _ _ _ _ hown3) ⟨w3.heap.size, 0, none⟩ [tb st (nb L sx)] 1 1 rfl rfl ?hsrc ?hlen w3 ((Below.refl _ _).alloc (Nat.le_trans gx.size G3.size) _) (Nat.le_trans gx.size G3.size) ?_)
        case hsrc => exact src_one w3 _ _ HE.out
        case hlen => have := H3.out; simp only [List.length_singleton]; omega
        · intro v1 w4 hown4 hb4
          have D4 := dr_below D3 hgw hb4
          have g4 := grown_below (grown_trans gx G3) hb4
          go_wp2
          go_roundw
          case rel =>
            refine ⟨m, P ++ [tb st (nb L sx)], nbS L sx, ?_, H2.out, ?_, by go_num, hown4, D4, g4⟩
            · show _ = _
              rw [H1.out]; simp [txB]
            · show _ = _
              have := H3.out; simp only [List.length_append, List.length_singleton]; omega
          case measure => simp [intOf]
      · have q1 : (st == 1) = false := by rw [beq_eq_false_iff_ne]; exact h1
        by_cases h2 : st = 2
        · have q2 : (st == 2) = true := by rw [h2]; rfl
          have HE : Hid (97 + nb L sx % 4 = ((tb st (nb L sx)).toNat : Int)) := by show _ = _; rw [← HB.out]; unfold tbZ; rw [if_neg h1, if_pos h2]
          clear h1 h2
          go_wp2_with (at_builtin; refine wpList_appendB rfl _ _ rfl w.heap.size _ P rfl (ownB_alloc _ _ _ _ _ hown3) ⟨w3.heap.size, 0, none⟩ [tb st (nb L sx)] 1 1 rfl rfl ?hsrc ?hlen w3 ((Below.refl _ _).alloc (Nat.le_trans gx.size G3.size) _) (Nat.le_trans gx.size G3.size) ?_)
          case hsrc => exact src_one w3 _ _ HE.out
          case hlen => have := H3.out; simp only [List.length_singleton]; omega
          · intro v1 w4 hown4 hb4
            have D4 := dr_below D3 hgw hb4
            have g4 := grown_below (grown_trans gx G3) hb4
            go_wp2
            go_roundw
            case rel =>
              refine ⟨m, P ++ [tb st (nb L sx)], nbS L sx, ?_, H2.out, ?_, by go_num, hown4, D4, g4⟩
              · show _ = _
                rw [H1.out]; simp [txB]
              · show _ = _
                have := H3.out; simp only [List.length_append, List.length_singleton]; omega
            case measure => simp [intOf]
        · have q2 : (st == 2) = false := by rw [beq_eq_false_iff_ne]; exact h2
          have HE : Hid (nb L sx = ((tb st (nb L sx)).toNat : Int)) := by show _ = _; rw [← HB.out]; unfold tbZ; rw [if_neg h1, if_neg h2]
          clear h1 h2
          go_wp2_with (at_builtin; refine wpList_appendB rfl _ _ rfl w.heap.size _ P rfl (ownB_alloc _ _ _ _ _ hown3) ⟨w3.heap.size, 0, none⟩ [tb st (nb L sx)] 1 1 rfl rfl ?hsrc ?hlen w3 ((Below.refl _ _).alloc (Nat.le_trans gx.size G3.size) _) (Nat.le_trans gx.size G3.size) ?_)
          case hsrc => exact src_one w3 _ _ HE.out
          case hlen => have := H3.out; simp only [List.length_singleton]; omega
          · intro v1 w4 hown4 hb4
            have D4 := dr_below D3 hgw hb4
            have g4 := grown_below (grown_trans gx G3) hb4
            go_wp2
            go_roundw
            case rel =>
              refine ⟨m, P ++ [tb st (nb L sx)], nbS L sx, ?_, H2.out, ?_, by go_num, hown4, D4, g4⟩
              · show _ = _
                rw [H1.out]; simp [txB]
              · show _ = _
                have := H3.out; simp only [List.length_append, List.length_singleton]; omega
            case measure => simp [intOf]
    · obtain rfl : m = 0 := by omega
      have hcv := conv_own _ _ _ _ hown
      go_wp2
      go_ret
      refine ⟨ret_str ?_, ?_, gx⟩
      · rw [HT.out, H1.out]; simp [txB]
      · rw [HTS.out, H2.out]; exact dx

end Go.Proofs.YthagjamgmlbhkaaDoor
