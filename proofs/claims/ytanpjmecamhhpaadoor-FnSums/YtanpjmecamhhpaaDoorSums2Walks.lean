/- The law on sums, walked. -/
import Derived.Test.YtanpjmecamhhpaaDoorSumsWalks
import Derived.Test.YtanpjmecamhhpaaDoorSumsMath
import Derived.Deep.RegionHeld
namespace Go.Proofs.YtanpjmecamhhpaaDoor
open Go.RowKit
set_option linter.unusedVariables false

/-- Block g holds the bytes P, and may be written. -/
def BufAt (w : World) (g : Nat) (P : List UInt8) : Prop := ∀ j (h : j < P.length), w.cell? ⟨g, j, none⟩ = some (.int .u8 (P[j].toNat : Int)) ∧ w.frozen? ⟨g, j, none⟩ = false

/-- The masks of the law: bytes of the code. -/
def mkB (L : List UInt8) (j : Nat) : UInt8 := UInt8.ofNat (atZ L (j + 1)).toNat
theorem mkB_at (L : List UInt8) (j : Nat) : atZ L (j + 1) = ((mkB L j).toNat : Int) := by
  have h := atZ_bd L (j + 1)
  unfold mkB
  rw [UInt8.toNat_ofNat']
  omega

theorem mask_test (m : UInt8) : ((m.toNat : Int) != 0) = (m != 0) := by
  by_cases h : m = 0
  · subst h; rfl
  · have h2 : m.toNat ≠ 0 := fun e => h (UInt8.toNat_inj.1 e)
    rw [bne_iff_ne.2 h, bne_iff_ne]
    omega
theorem buf_set {w : World} {g i : Nat} {P : List UInt8} (b c : UInt8) (hi : i < P.length) (h : BufAt w g P) : BufAt (w.setCell ⟨g, i, none⟩ (.int .u8 ((b.toNat ^^^ c.toNat : Nat) : Int))) g (P.set i (b ^^^ c)) := by
  intro j hj
  rw [List.length_set] at hj
  obtain ⟨h1, h2⟩ := h j hj
  obtain ⟨h3, h4⟩ := h i hi
  rw [World.frozen?_setCell]
  refine ⟨?_, h2⟩
  by_cases hij : i = j
  · subst hij
    rw [World.cell?_setCell_same _ _ _ h3, List.getElem_set_self, UInt8.toNat_xor]
  · rw [World.cell?_setCell_other _ _ _ _ (by intro e; exact hij (by injection e)), List.getElem_set_ne hij]
    exact h1
theorem buf_below {w w' : World} {g X : Nat} {P : List UInt8} (h : BufAt w g P) (hb : Below X w w') (hX : g < X) : BufAt w' g P :=
  fun j hj => ⟨(hb.cell (p := ⟨g, j, none⟩) hX).trans (h j hj).1, (hb.frozen (p := ⟨g, j, none⟩) hX).trans (h j hj).2⟩
theorem buf_lt {w : World} {g : Nat} {P : List UInt8} (h : BufAt w g P) (h1 : 1 ≤ P.length) : g < w.heap.size := World.block_lt_of_cell? w _ (h 0 h1).1

/-- What the last statement of the law needs of the world. -/
structure SumW (w : World) (g : Nat) (P : List UInt8) (X : World) : Prop where
  old : Below w.heap.size w X
  buf : BufAt X g P
  full : 1 ≤ P.length
  tab : TabAt X
theorem SumW.next {w X Y : World} {g : Nat} {P : List UInt8} (h : SumW w g P X) (hb : Below X.heap.size X Y) : SumW w g P Y :=
  ⟨h.old.trans (hb.mono h.old.size), buf_below h.buf hb (buf_lt h.buf h.full), h.full, tab_below h.tab hb (tab_pos h.tab)⟩
theorem SumW.drew {w X : World} {g : Nat} {P : List UInt8} (h : SumW w g P X) : SumW w g P X.drew := ⟨h.old.drew, h.buf, h.full, h.tab⟩
theorem SumW.conv {w X : World} {g : Nat} {P : List UInt8} (h : SumW w g P X) (cp n : Nat) (hn : n = P.length) : (convert 22 9 (.slice (some ⟨g, 0, none⟩) n cp)).run Tryd.prog X = .ok (.string (txt P)) X := by
  subst hn
  refine run_convert_bytes_back (P := Tryd.prog) X 22 9 5 ⟨g, 0, none⟩ cp P Tryd.underlying22 Tryd.underlying5 Tryd.underlying9 ?_
  intro j hj
  have ea : Addr.add ⟨g, 0, none⟩ j = ⟨g, j, none⟩ := by unfold Addr.add; split <;> simp_all
  rw [ea]
  exact (h.buf j hj).1

theorem bytes_of (S : List UInt8) (w : World) : ∃ w2 cp, (convert 9 22 (.string (txt S))).run Tryd.prog w = .ok (.slice (some ⟨w.heap.size, 0, none⟩) S.length cp) w2 ∧ BufAt w2 w.heap.size S ∧ Below w.heap.size w w2 ∧ w.heap.size < w2.heap.size := by
  refine ⟨_, _, run_bytes_of_string (P := Tryd.prog) w 9 22 5 (txt S) Tryd.underlying9 Tryd.underlying22 Tryd.underlying5, ?_, ?_, ?_⟩
  · intro j hj
    have hj2 : j < (txt S).data.size := hj
    refine ⟨?_, ?_⟩
    · rw [show w.heap.size = w.drew.heap.size from rfl, World.cell?_alloc_mark, bytesRow_at _ _ _ hj2]
      rfl
    · rw [show w.heap.size = w.drew.heap.size from rfl, World.frozen?_alloc_mark]
      have h3 : j < (bytesRow (txt S) (grownCap w (txt S).size 0 5)).size := by
        unfold bytesRow
        rw [Array.size_append, Array.size_map]
        omega
      rw [decide_eq_false (by omega)]
      rfl
  · exact (Below.refl _ _).drew.alloc (Nat.le_refl _) _
  · show w.heap.size < (w.heap.push _).size
    simp

set_option maxRecDepth 100000 in
set_option maxHeartbeats 4000000 in
theorem sums_walk (a : Option Addr) (cap : Nat) (L : List UInt8) (w : World) (hL : L.length ≤ 1048576) (hc : CodeAt w.heap.size w a L) (ht : TabAt w) :
    Calls Tryd.prog 3 #[.slice a L.length cap] w fun e w' => e = .returned (.bool true) ∧ Below w.heap.size w w' := by
  have HC : Hid (CodeAt w.heap.size w a L) := hc
  have HT : Hid (TabAt w) := ht
  clear hc ht
  have hbig : decide (1048576 < L.length) = false := by simp; omega
  obtain ⟨T, hT⟩ : ∃ T, text L (s0 L) 12 = T := ⟨_, rfl⟩
  have hTl := text_length L (s0 L) 12
  rw [hT] at hTl
  have CD : Hid (∀ w', Below w.heap.size w w' → _) := fun w' hb => drawShowText_calls (cap := cap) (w := w') hL (code_below HC.out hb) hb.size
  rw [hT] at CD
  clear hT
  have hTs : (txt T).size ≤ 12 := hTl
  go_enter Tryd.func3, Tryd.ntmps3
  go_wp2_with fail
  refine (big_calls a L.length cap w (by omega)).mono ?_
  rintro e w ⟨rfl, rfl⟩
  rw [hbig]
  go_wp2_with fail
  refine (CD.out _ (Below.refl _ _)).mono ?_
  rintro e w1 ⟨rfl, B1⟩
  have hS : ({ data := #[120] } : ByteArray) ++ txt T = txt (120 :: T) := txt_append [120] T
  obtain ⟨S, hSS⟩ : ∃ S, 120 :: T = S := ⟨_, rfl⟩
  have hSl : 1 ≤ S.length ∧ S.length ≤ 13 := by rw [← hSS, List.length_cons]; omega
  rw [hSS] at hS
  have hSz : (txt S).size = S.length := rfl
  clear hSS hTl
  obtain ⟨w2, cp, hcv, U2, b2, hz2⟩ := bytes_of S w1
  have HU2 : Hid (BufAt w2 w1.heap.size S) := U2
  have B2 := B1.trans (b2.mono B1.size)
  clear U2 b2
  go_wp2_with fail
  refine (at_calls w.heap.size a cap L 0 _ hL (by omega) (code_below HC.out B2)).mono ?_
  rintro e w2 ⟨rfl, rfl⟩
  have hk := atZ_bd L 0
  go_wp2
  obtain ⟨k, hk1, hk2⟩ : ∃ k : Nat, atZ L 0 % (S.length : Int) = (k : Int) ∧ k < S.length := by
    have h1 := Int.emod_nonneg (atZ L 0) (b := (S.length : Int)) (by omega)
    have h2 := Int.emod_lt_of_pos (atZ L 0) (b := (S.length : Int)) (by omega)
    exact ⟨(atZ L 0 % (S.length : Int)).toNat, by omega, by omega⟩
  rw [hk1]
  clear hk1 hk
  go_loopw [6, 7] (fun ch i wr => ∃ j : Nat, j ≤ 4 ∧ k + j ≤ S.length ∧ i = .int .i64 j ∧ ch = .bool (chg (mkB L) j) ∧ Hid (BufAt wr w1.heap.size (bufL S k j (mkB L))) ∧ Below w.heap.size w wr) (fun _ i _ => 4 - (intOf i).toNat)
  case atStart => exact ⟨0, by omega, by omega, rfl, rfl, by rw [bufL_zero]; exact HU2, B2⟩
  case round =>
    obtain ⟨j, hj, hkj, rfl, rfl, HU, B3⟩ := hrel
    by_cases hlt : j < 4 ∧ k + j < S.length
    · obtain ⟨hlt1, hlt2⟩ := hlt
      have CA : Hid (∀ w', Below w.heap.size w w' → _) := fun w' hb => at_calls w.heap.size a cap L (j + 1) w' hL (by omega) (code_below HC.out hb)
      have HS : Hid (_ = _) := bufL_succ S k j (mkB L) hlt2
      have HG : Hid (_ = _) := chg_succ (mkB L) j
      rw [mkB_at L j] at CA
      obtain ⟨hcell, hfr⟩ := HU.out (k + j) (by rw [bufL_length]; exact hlt2)
      rw [bufL_at S k j (mkB L) hlt2] at hcell
      have hm := UInt8.toNat_lt (mkB L j)
      have hxor := xor_u8 S[k + j] (mkB L j)
      generalize hmm : mkB L j = m at *
      obtain ⟨c, hcg⟩ : ∃ c, chg (mkB L) j = c := ⟨_, rfl⟩
      rw [hcg] at HG ⊢
      clear hcg
      cases c
      · go_wp2_with fail
        refine (CA.out _ B3).mono ?_
        rintro e wr ⟨rfl, rfl⟩
        go_wp2
        go_roundw
        case rel =>
          refine ⟨j + 1, by omega, by omega, by go_num, ?_, ?_, B3.setCell (p := ⟨w1.heap.size, k + j, none⟩) B1.size _⟩
          · rw [HG.out, mask_test]; rfl
          · rw [HS.out]; exact buf_set _ _ (by rw [bufL_length]; exact hlt2) HU.out
        case measure => simp [intOf]; omega
      · go_wp2_with fail
        refine (CA.out _ B3).mono ?_
        rintro e wr ⟨rfl, rfl⟩
        go_wp2
        go_roundw
        case rel =>
          refine ⟨j + 1, by omega, by omega, by go_num, ?_, ?_, B3.setCell (p := ⟨w1.heap.size, k + j, none⟩) B1.size _⟩
          · rw [HG.out]; rfl
          · rw [HS.out]; exact buf_set _ _ (by rw [bufL_length]; exact hlt2) HU.out
        case measure => simp [intOf]; omega
    · have HJ : Hid (_ ↔ _) := crc_buf S k j (mkB L) 4294967295 hkj hj
      have hPl := bufL_length S k j (mkB L)
      generalize bufL S k j (mkB L) = P at *
      generalize chg (mkB L) j = ch at *
      have G3 : SumW w w1.heap.size P wr := ⟨B3, HU.out, by omega, tab_below HT.out B3 (tab_pos HT.out)⟩
      have hs1 : (txt S).size ≤ 2097152 := by rw [txt_size]; omega
      have hs2 : (txt P).size ≤ 2097152 := by rw [txt_size]; omega
      have hn := crcL_lt S 4294967295 (by decide)
      have CS : Hid (∀ X, SumW w w1.heap.size P X → Calls Tryd.prog 8 #[.string (txt S)] X fun e X' => e = .returned (.int .i64 (crcV S)) ∧ SumW w w1.heap.size P X') :=
        fun X h => (iCrc_calls (txt S) X hs1 h.tab).mono fun e X' ⟨he, hb⟩ => ⟨he, h.next hb⟩
      have CP : Hid (∀ X, SumW w w1.heap.size P X → Calls Tryd.prog 8 #[.string (txt P)] X fun e X' => e = .returned (.int .i64 (crcV P)) ∧ SumW w w1.heap.size P X') :=
        fun X h => (iCrc_calls (txt P) X hs2 h.tab).mono fun e X' ⟨he, hb⟩ => ⟨he, h.next hb⟩
      have DS : Hid (∀ X, _) := fun X => sCrc_calls (txt S) X hs1
      have DP : Hid (∀ X, _) := fun X => sCrc_calls (txt P) X hs2
      rw [show (txt S).data.toList = S from rfl] at DS
      rw [show (txt P).data.toList = P from rfl] at DP
      have HV : Hid (crcV P = crcV S ↔ ch = false) := by
        show _ ↔ _
        rw [← HJ.out]
        unfold crcV
        constructor <;> intro h <;> omega
      have hn0 : 0 ≤ crcV S ∧ crcV S ≤ 4294967295 := by unfold crcV; omega
      generalize crcV S = n at *
      generalize crcV P = n2 at *
      clear hn HJ hs1 hs2 B3 HU CD hcv hS HU2 B2 hz2 HC HT hTs hSz hL hbig
      cases ch with
      | false =>
        obtain rfl : n2 = n := HV.out.2 rfl
        by_cases h4 : j < 4
        · have h5 : S.length ≤ k + j := by omega
          go_wp2_with fail
          refine (CS.out _ G3).mono ?_
          rintro e w4 ⟨rfl, G4⟩
          have G5 := G4.drew
          have hcv4 := G5.conv cp S.length hPl.symm
          go_wp2_with fail
          go_region_held (fun X => (convert 22 9 (.slice (some ⟨w1.heap.size, 0, none⟩) S.length cp)).run Tryd.prog X = .ok (.string (txt P)) X ∧ SumW w w1.heap.size P X) (first | exact ⟨GX.conv cp S.length hPl.symm, GX⟩ | exact ⟨hcv4, G5⟩) (first | (go_at_call_of 9 (Value.string (txt S)); refine (DS.out _).mono ?_; rintro e X ⟨rfl, rfl⟩) | (go_at_call_of 9 (Value.string (txt P)); refine (DP.out _).mono ?_; rintro e X ⟨rfl, rfl⟩) | (go_at_call 8; (first | refine (CP.out _ GX).mono ?_ | refine (CP.out _ G5).mono ?_); rintro e X ⟨rfl, GX⟩))
          all_goals
            go_wp2
            go_ret
            exact ⟨rfl, GX.old⟩
        · have h5 : decide ((j : Int) < 4) = false := by simp; omega
          go_wp2_with fail
          refine (CS.out _ G3).mono ?_
          rintro e w4 ⟨rfl, G4⟩
          have G5 := G4.drew
          have hcv4 := G5.conv cp S.length hPl.symm
          go_wp2_with fail
          go_region_held (fun X => (convert 22 9 (.slice (some ⟨w1.heap.size, 0, none⟩) S.length cp)).run Tryd.prog X = .ok (.string (txt P)) X ∧ SumW w w1.heap.size P X) (first | exact ⟨GX.conv cp S.length hPl.symm, GX⟩ | exact ⟨hcv4, G5⟩) (first | (go_at_call_of 9 (Value.string (txt S)); refine (DS.out _).mono ?_; rintro e X ⟨rfl, rfl⟩) | (go_at_call_of 9 (Value.string (txt P)); refine (DP.out _).mono ?_; rintro e X ⟨rfl, rfl⟩) | (go_at_call 8; (first | refine (CP.out _ GX).mono ?_ | refine (CP.out _ G5).mono ?_); rintro e X ⟨rfl, GX⟩))
          all_goals
            go_wp2
            go_ret
            exact ⟨rfl, GX.old⟩
      | true =>
        have hne : (n != n2) = true := bne_iff_ne.2 fun e => by have := HV.out.1 e.symm; cases this
        by_cases h4 : j < 4
        · have h5 : S.length ≤ k + j := by omega
          go_wp2_with fail
          refine (CS.out _ G3).mono ?_
          rintro e w4 ⟨rfl, G4⟩
          have G5 := G4.drew
          have hcv4 := G5.conv cp S.length hPl.symm
          go_wp2_with fail
          go_region_held (fun X => (convert 22 9 (.slice (some ⟨w1.heap.size, 0, none⟩) S.length cp)).run Tryd.prog X = .ok (.string (txt P)) X ∧ SumW w w1.heap.size P X) (first | exact ⟨GX.conv cp S.length hPl.symm, GX⟩ | exact ⟨hcv4, G5⟩) (first | (go_at_call_of 9 (Value.string (txt S)); refine (DS.out _).mono ?_; rintro e X ⟨rfl, rfl⟩) | (go_at_call_of 9 (Value.string (txt P)); refine (DP.out _).mono ?_; rintro e X ⟨rfl, rfl⟩) | (go_at_call 8; (first | refine (CP.out _ GX).mono ?_ | refine (CP.out _ G5).mono ?_); rintro e X ⟨rfl, GX⟩))
          all_goals
            go_wp2
            go_ret
            exact ⟨rfl, GX.old⟩
        · have h5 : decide ((j : Int) < 4) = false := by simp; omega
          go_wp2_with fail
          refine (CS.out _ G3).mono ?_
          rintro e w4 ⟨rfl, G4⟩
          have G5 := G4.drew
          have hcv4 := G5.conv cp S.length hPl.symm
          go_wp2_with fail
          go_region_held (fun X => (convert 22 9 (.slice (some ⟨w1.heap.size, 0, none⟩) S.length cp)).run Tryd.prog X = .ok (.string (txt P)) X ∧ SumW w w1.heap.size P X) (first | exact ⟨GX.conv cp S.length hPl.symm, GX⟩ | exact ⟨hcv4, G5⟩) (first | (go_at_call_of 9 (Value.string (txt S)); refine (DS.out _).mono ?_; rintro e X ⟨rfl, rfl⟩) | (go_at_call_of 9 (Value.string (txt P)); refine (DP.out _).mono ?_; rintro e X ⟨rfl, rfl⟩) | (go_at_call 8; (first | refine (CP.out _ GX).mono ?_ | refine (CP.out _ G5).mono ?_); rintro e X ⟨rfl, GX⟩))
          all_goals
            go_wp2
            go_ret
            exact ⟨rfl, GX.old⟩

end Go.Proofs.YtanpjmecamhhpaaDoor
