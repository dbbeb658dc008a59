/- What spec.ShowLog answers, at every list of at most 2^24 texts of at most 2^20 bytes. -/
import Derived.Test.YthagjamgmlbhkaaDoorLog3Math
import Derived.Test.YthagjamgmlbhkaaDoorSSpotsWalks
import Derived.Test.YthagjamgmlbhkaaDoorStrsWalks
namespace Go.Proofs.YthagjamgmlbhkaaDoor
open Go.RowKit
set_option linter.unusedVariables false

set_option maxHeartbeats 1000000 in
theorem sShowLog_calls (w : World) (a : Option Addr) (cap : Nat) (zs : List (List UInt8)) (h : RdS w a zs) (hn : zs.length ≤ 16777216) (hz : ∀ z ∈ zs, z.length ≤ 1048576) :
    Calls Tryd.prog 20 #[.slice a zs.length cap] w fun e w' => e = .returned (.string (txt (showL zs))) ∧ Below w.heap.size w w' := by
  have HA : Hid (RdS w a zs) := h
  have HZ : Hid (∀ (j : Nat) (h : j < zs.length), zs[j].length ≤ 1048576) := fun j h => hz _ (List.getElem_mem h)
  by_cases h4 : 400 < zs.length
  · have HE : Hid (showL zs = []) := okL_many zs h4
    clear h hz HA HZ
    generalize zs.length = n at *
    go_enter Tryd.func20, Tryd.ntmps20
    go_wp2
    go_ret
    exact ⟨ret_str (by rw [HE.out]; rfl), Below.refl _ _⟩
  · have LZ : Hid (logTo zs 0 = magic) := logTo_zero zs
    have OZ : Hid (okTo zs 0) := okTo_zero zs
    have LS : Hid (∀ (j : Nat) (h : j < zs.length), logTo zs (j + 1) = logTo zs j ++ frame j zs[j]) := logTo_succ zs
    have OS : Hid (∀ (j : Nat) (h : j < zs.length), okTo zs j → zs[j] ≠ [] → zs[j].length ≤ 200 → okTo zs (j + 1)) := okTo_succ zs
    have ON : Hid (∀ (j : Nat) (h : j < zs.length), zs[j] = [] ∨ 200 < zs[j].length → showL zs = []) := okL_not zs
    have LA : Hid (okTo zs zs.length → logTo zs zs.length ++ frame zs.length [] = showL zs) := fun ho => logTo_all zs (okL_all zs (by omega) ho)
    have LL : Hid (∀ j, j ≤ zs.length → okTo zs j → (logTo zs j).length ≤ 87205) := fun j hj ho => logTo_length zs j hj (by omega) ho
    have h40 : zs.length ≤ 400 := by omega
    obtain ⟨n, hnn⟩ : ∃ n, zs.length = n := ⟨_, rfl⟩
    have Hn : Hid (zs.length = n) := hnn
    rw [hnn] at h4 h40 hn LA LL ⊢
    clear h hz hnn
    go_enter Tryd.func20, Tryd.ntmps20
    go_wp2_with fail
    refine (sMagic_calls _).mono ?_
    rintro e w1 ⟨rfl, rfl⟩
    go_wp2
    go_loopw [3, 4] (fun s i wr => ∃ j : Nat, j ≤ n ∧ i = .int .i64 (j : Int) ∧ s = .string (txt (logTo zs j)) ∧ Hid (okTo zs j) ∧ Below w1.heap.size w1 wr) (fun _ i _ => n - (intOf i).toNat)
    case atStart => exact ⟨0, by omega, rfl, by rw [LZ.out]; rfl, OZ, Below.refl _ _⟩
    case round =>
      obtain ⟨j, hj, rfl, rfl, HO, hb⟩ := hrel
      by_cases hlt : j < n
      · have hj2 : j < zs.length := by have := Hn.out; omega
        obtain ⟨g, off, rfl, hg, hc1⟩ := HA.out j hj2
        rw [← hb.cell (p := ⟨g, off + j, none⟩) hg] at hc1
        by_cases he : zs[j] = []
        · have HE : Hid (showL zs = []) := ON.out j hj2 (.inl he)
          have hc2 : wr.cell? ⟨g, off + j, none⟩ = some (.string ⟨#[]⟩) := by rw [hc1, he]; rfl
          clear he hc1
          go_wp2
          go_ret
          exact ⟨ret_str (by rw [HE.out]; rfl), hb⟩
        · have hz1 : ((txt zs[j]).toList == []) = false := by
            rw [beq_eq_false_iff_ne]; unfold txt; rw [ByteArray.toList_mk]; exact he
          have hsz : (txt zs[j]).size = zs[j].length := rfl
          by_cases hl : 200 < zs[j].length
          · have HE : Hid (showL zs = []) := ON.out j hj2 (.inr hl)
            clear he
            generalize zs[j] = z at *
            go_wp2
            go_ret
            exact ⟨ret_str (by rw [HE.out]; rfl), hb⟩
          · have h20 : zs[j].length ≤ 200 := by omega
            have HO2 : Hid (okTo zs (j + 1)) := OS.out j hj2 HO.out he h20
            have HL2 : Hid (_ = _) := LS.out j hj2
            have z1 : (txt (logTo zs j)).size ≤ 87205 := LL.out j hj HO.out
            have z2 : (txt (showF (j : Int) zs[j])).size ≤ 218 := showF_length _ _
            have HF : Hid (showF (j : Int) zs[j] = frame j zs[j]) := showF_in j zs[j] (by omega) h20
            have CF : Hid (∀ X, _) := fun X => sShowFrame_calls (j : Int) zs[j] X (by omega)
            have A1 := txt_append (logTo zs j) (showF (j : Int) zs[j])
            rw [HF.out] at z2 CF A1
            clear he
            generalize zs[j] = z at *
            generalize frame j z = fz at *
            go_wp2_with fail
            refine (CF.out _).mono ?_
            rintro e w2 ⟨rfl, b2⟩
            have B2 := hb.trans (b2.mono hb.size)
            go_wp2
            go_roundw
            case rel => exact ⟨j + 1, by omega, by go_num, by rw [HL2.out], HO2, B2⟩
            case measure => simp [intOf]; omega
      · obtain rfl : j = n := by omega
        have HE : Hid (_ = _) := LA.out HO.out
        have z1 : (txt (logTo zs j)).size ≤ 87205 := LL.out j hj HO.out
        have z2 : (txt (showF (j : Int) [])).size ≤ 218 := showF_length _ _
        have HF : Hid (showF (j : Int) [] = frame j []) := showF_in j [] (by omega) (by simp)
        have CF : Hid (∀ X, _) := fun X => sShowFrame_calls (j : Int) [] X (by simp)
        have A1 := txt_append (logTo zs j) (showF (j : Int) [])
        rw [HF.out] at z2 CF A1
        generalize frame j [] = fz at *
        go_wp2_with fail
        refine (CF.out _).mono ?_
        rintro e w2 ⟨rfl, b2⟩
        have B2 := hb.trans (b2.mono hb.size)
        go_wp2
        go_ret
        exact ⟨ret_str (by rw [HE.out]), B2⟩

end Go.Proofs.YthagjamgmlbhkaaDoor
