/- What impl.ShowLog answers, at every list of at most 2^24 texts of at most 2^20 bytes, where the table of sixteen lies as the program's text lays it. -/
import Derived.Test.YthagjamgmlbhkaaDoorLog3Math
import Derived.Test.YthagjamgmlbhkaaDoorIFrameWalks
import Derived.Test.YthagjamgmlbhkaaDoorBuildWalks
import Derived.Test.YthagjamgmlbhkaaDoorStrsWalks
import Derived.Test.YthagjamgmlbhkaaDoorShelf
namespace Go.Proofs.YthagjamgmlbhkaaDoor
open Go.RowKit
set_option linter.unusedVariables false

theorem bldAt_later {B b : Nat} {p : Value} {bs : List Value} {w w' : World} (h : Lib.BuilderAt 49 5 B b p bs w) (hb : Below w.heap.size w w') : Lib.BuilderAt 49 5 B b p bs w' := by
  have hlt := h.lt
  obtain ⟨h1, v, h2, ⟨h3, h4⟩, h5⟩ := h
  refine ⟨h1, v, ?_, ⟨h3, ?_⟩, h5⟩
  · rw [hb.block b hlt]; exact h2
  · rcases h4 with h4 | ⟨g, cap, cur, h6, h7, h8, h9⟩
    · exact .inl h4
    · refine .inr ⟨g, cap, cur, h6, h7, ?_, h9⟩
      rw [hb.block g (Array.getElem?_eq_some_iff.1 h8).1]
      exact h8
theorem bld_later {B b : Nat} {l : List UInt8} {w w' : World} (h : Bld B b l w) (hb : Below w.heap.size w w') : Bld B b l w' := by
  rcases h with h | h
  · exact .inl (bldAt_later h hb)
  · exact .inr (bldAt_later h hb)
theorem bld_new (w : World) : Bld w.heap.size w.heap.size [] (w.alloc (.cells #[.pointer none, .slice none 0 0] 49)) := Lib.fresh_isBuilder _ _ w

set_option maxHeartbeats 1000000 in
theorem iShowLog_calls (w : World) (a : Option Addr) (cap : Nat) (zs : List (List UInt8)) (ht : TabAt w) (h : RdS w a zs) (hn : zs.length ≤ 16777216) (hz : ∀ z ∈ zs, z.length ≤ 1048576) :
    Calls Tryd.prog 11 #[.slice a zs.length cap] w fun e w' => e = .returned (.string (txt (showL zs))) ∧ Below w.heap.size w w' := by
  have HT : Hid (TabAt w) := ht
  have HA : Hid (RdS w a zs) := h
  have HZ : Hid (∀ (j : Nat) (h : j < zs.length), zs[j].length ≤ 1048576) := fun j h => hz _ (List.getElem_mem h)
  clear ht
  by_cases h4 : 400 < zs.length
  · have HE : Hid (showL zs = []) := okL_many zs h4
    clear h hz HA HZ
    generalize zs.length = n at *
    go_enter Tryd.func11, Tryd.ntmps11
    go_wp2
    go_ret
    exact ⟨ret_str (by rw [HE.out]; rfl), Below.refl _ _⟩
  · have LZ : Hid (logTo zs 0 = magic) := logTo_zero zs
    have OZ : Hid (okTo zs 0) := okTo_zero zs
    have LS : Hid (∀ (j : Nat) (h : j < zs.length), logTo zs (j + 1) = logTo zs j ++ frame j zs[j]) := logTo_succ zs
    have OS : Hid (∀ (j : Nat) (h : j < zs.length), okTo zs j → zs[j] ≠ [] → zs[j].length ≤ 200 → okTo zs (j + 1)) := okTo_succ zs
    have ON : Hid (∀ (j : Nat) (h : j < zs.length), zs[j] = [] ∨ 200 < zs[j].length → showL zs = []) := okL_not zs
    have LA : Hid (okTo zs zs.length → logTo zs zs.length ++ frame zs.length [] = showL zs) := fun ho => logTo_all zs (okL_all zs (by omega) ho)
    have LL : Hid (∀ j, j ≤ zs.length → okTo zs j → (logTo zs j).length ≤ 87205) := fun j hj ho => logTo_length zs j hj (by omega) ho
    have h40 : zs.length ≤ 400 := by omega
    obtain ⟨n, hnn⟩ : ∃ n, zs.length = n := ⟨_, rfl⟩
    have Hn : Hid (zs.length = n) := hnn
    rw [hnn] at h4 h40 hn LA LL ⊢
    clear h hz hnn
    have hm : ({ data := #[72, 76, 79, 71, 1] } : ByteArray) = txt magic := rfl
    have B0 : Below w.heap.size w (w.alloc (.cells #[.pointer none, .slice none 0 0] 49)) := (Below.refl _ _).alloc (Nat.le_refl _) _
    have D0 : Hid (Bld w.heap.size w.heap.size [] (w.alloc (.cells #[.pointer none, .slice none 0 0] 49))) := bld_new w
    go_enter Tryd.func11, Tryd.ntmps11
    go_wp2_with fail
    refine (write_calls w.heap.size w.heap.size [] magic _ D0.out (by decide) B0.size).mono ?_
    rintro e w1 ⟨rfl, hD1, b1⟩
    have D1 : Hid (Bld w.heap.size w.heap.size (logTo zs 0) w1) := by rw [LZ.out]; exact hD1
    have B1 := B0.trans b1
    clear hD1 b1 D0 B0 hm
    go_wp2
    go_loopw [13] (fun i wr => ∃ j : Nat, j ≤ n ∧ i = .int .i64 (j : Int) ∧ Hid (Bld w.heap.size w.heap.size (logTo zs j) wr) ∧ Hid (okTo zs j) ∧ Below w.heap.size w wr) (fun i _ => n - (intOf i).toNat)
    case atStart => exact ⟨0, by omega, rfl, D1, OZ, B1⟩
    case round =>
      obtain ⟨j, hj, rfl, HD, HO, hb⟩ := hrel
      have HT2 : Hid (TabAt wr) := tab_below HT.out hb (tab_pos HT.out)
      by_cases hlt : j < n
      · have hj2 : j < zs.length := by have := Hn.out; omega
        obtain ⟨g, off, rfl, hg, hc1⟩ := HA.out j hj2
        rw [← hb.cell (p := ⟨g, off + j, none⟩) hg] at hc1
        have CF : Hid (∀ X, TabAt X → _) := fun X hX => iShowFrame_calls (j : Int) zs[j] X (HZ.out j hj2) hX
        have z2 : (txt (showF (j : Int) zs[j])).size ≤ 218 := showF_length _ _
        have hsz : (txt zs[j]).size = zs[j].length := rfl
        have hzl := HZ.out j hj2
        by_cases he : zs[j] = []
        · have HE : Hid (showL zs = []) := ON.out j hj2 (.inl he)
          have hc2 : wr.cell? ⟨g, off + j, none⟩ = some (.string ⟨#[]⟩) := by rw [hc1, he]; rfl
          rw [he] at CF
          clear he hc1 z2 hsz hzl
          go_wp2_with fail
          refine (CF.out _ HT2.out).mono ?_
          rintro e w2 ⟨rfl, b2⟩
          go_wp2
          go_ret
          exact ⟨ret_str (by rw [HE.out]; rfl), hb.trans (b2.mono hb.size)⟩
        · have hz1 : ((txt zs[j]).toList == []) = false := by
            rw [beq_eq_false_iff_ne]; unfold txt; rw [ByteArray.toList_mk]; exact he
          by_cases hl : 200 < zs[j].length
          · have HE : Hid (showL zs = []) := ON.out j hj2 (.inr hl)
            have HS : showF (j : Int) zs[j] = [] := showF_out _ _ (by omega)
            have e0 : txt (showF (j : Int) zs[j]) = ⟨#[]⟩ := by rw [HS]; rfl
            rw [e0] at CF
            clear he z2 HS e0
            generalize zs[j] = z at *
            go_wp2_with fail
            refine (CF.out _ HT2.out).mono ?_
            rintro e w2 ⟨rfl, b2⟩
            go_wp2
            go_ret
            exact ⟨ret_str (by rw [HE.out]; rfl), hb.trans (b2.mono hb.size)⟩
          · have h20 : zs[j].length ≤ 200 := by omega
            have HO2 : Hid (okTo zs (j + 1)) := OS.out j hj2 HO.out he h20
            have HL2 : Hid (_ = _) := LS.out j hj2
            have z1 : (txt (logTo zs j)).size ≤ 87205 := LL.out j hj HO.out
            have HF : Hid (showF (j : Int) zs[j] = frame j zs[j]) := showF_in j zs[j] (by omega) h20
            have hne : frame j zs[j] ≠ [] := fun h => by have := frame_pos j zs[j]; rw [h] at this; simp at this
            have hz3 : ((txt (frame j zs[j])).toList == []) = false := by
              rw [beq_eq_false_iff_ne]; unfold txt; rw [ByteArray.toList_mk]; exact hne
            rw [HF.out] at z2 CF
            rw [txt_size] at z1 z2
            clear he hne
            generalize zs[j] = z at *
            generalize frame j z = fz at *
            generalize logTo zs j = L at *
            go_wp2_with fail
            refine (CF.out _ HT2.out).mono ?_
            rintro e w2 ⟨rfl, b2⟩
            have B2 := hb.trans (b2.mono hb.size)
            have D2 : Hid (Bld w.heap.size w.heap.size L w2) := bld_later HD.out b2
            go_wp2_with fail
            refine (write_calls w.heap.size w.heap.size L fz _ D2.out (by omega) B2.size).mono ?_
            rintro e w3 ⟨rfl, D3, b3⟩
            have D4 : Hid (Bld w.heap.size w.heap.size (L ++ fz) w3) := D3
            have B3 := B2.trans b3
            clear D3
            go_wp2
            go_roundw
            case rel => exact ⟨j + 1, by omega, by go_num, by rw [HL2.out]; exact D4, HO2, B3⟩
            case measure => simp [intOf]; omega
      · obtain rfl : j = n := by omega
        have HE : Hid (_ = _) := LA.out HO.out
        have z1 : (logTo zs j).length ≤ 87205 := LL.out j hj HO.out
        have z2 : (showF (j : Int) []).length ≤ 218 := showF_length _ _
        have HF : Hid (showF (j : Int) [] = frame j []) := showF_in j [] (by omega) (by simp)
        have CF : Hid (∀ X, TabAt X → _) := fun X hX => iShowFrame_calls (j : Int) [] X (by simp) hX
        rw [HF.out] at z2 CF
        generalize frame j [] = fz at *
        generalize logTo zs j = L at *
        go_wp2_with fail
        refine (CF.out _ HT2.out).mono ?_
        rintro e w2 ⟨rfl, b2⟩
        have B2 := hb.trans (b2.mono hb.size)
        have D2 : Hid (Bld w.heap.size w.heap.size L w2) := bld_later HD.out b2
        go_wp2_with fail
        refine (write_calls w.heap.size w.heap.size L fz _ D2.out (by omega) B2.size).mono ?_
        rintro e w3 ⟨rfl, D3, b3⟩
        have D4 : Hid (Bld w.heap.size w.heap.size (L ++ fz) w3) := D3
        have B3 := B2.trans b3
        clear D3
        go_wp2_with fail
        refine (Tryd.Builder_String_any w.heap.size w.heap.size (L ++ fz) _ D4.out B3.size).mono ?_
        rintro e w4 ⟨rfl, b4⟩
        have B4 := B3.trans b4
        go_wp2
        go_ret
        exact ⟨ret_str (by rw [← HE.out]; rfl), B4⟩

end Go.Proofs.YthagjamgmlbhkaaDoor
