/- The parts of Lose: leadsTo, without, suspect; l6Without, l5None. -/
import Derived.Test.YtjhdnachbahbmaaLoseState
namespace Go.Proofs.Ytjhdnachbahbmaa
open Go.RowKit
set_option linter.unusedVariables false
set_option maxRecDepth 100000

theorem filter_take (p : Int → Bool) (zs : List Int) (j : Nat) (h : j < zs.length) : (zs.take (j + 1)).filter p = (zs.take j).filter p ++ (if p zs[j] = true then [zs[j]] else []) := by
  rw [List.take_succ_eq_append_getElem h, List.filter_append]
  congr 1
  by_cases e : p zs[j] = true
  · rw [if_pos e]; simp [e]
  · rw [if_neg e]; simp [e]

set_option maxHeartbeats 1000000 in
theorem leadsTo_calls (w : World) (g p : Nat) (f : Option Addr) (c : Nat) (zs : List Int) (hc : w.cell? ⟨g, p + 6, none⟩ = some (.slice f zs.length c)) (hr : RdI w f zs) (hl : zs.length ≤ 1048576) :
    Calls Try.prog 64 #[.pointer (some ⟨g, p, none⟩)] w fun e w' => ∃ x, e = .returned x ∧ ownI w' w.heap.size x (zs.filter (fun z => decide (0 ≤ z))) ∧ Below w.heap.size w w' := by
  have HR : Hid (RdI w f zs) := hr
  have HF : Hid (∀ j (h : j < zs.length), (zs.take (j + 1)).filter (fun z => decide (0 ≤ z)) = (zs.take j).filter (fun z => decide (0 ≤ z)) ++ (if decide (0 ≤ zs[j]) = true then [zs[j]] else [])) := fun j h => filter_take _ zs j h
  have HL : Hid (∀ j, ((zs.take j).filter (fun z => decide (0 ≤ z))).length ≤ 1048576) := fun j => by
    have h1 := List.length_filter_le (fun z => decide (0 ≤ z)) (zs.take j)
    rw [List.length_take] at h1
    omega
  have HE : Hid ((zs.take zs.length).filter (fun z => decide (0 ≤ z)) = zs.filter (fun z => decide (0 ≤ z))) := by show _ = _; rw [List.take_length]
  obtain ⟨F, hF⟩ : ∃ F : Nat → List Int, ∀ j, (zs.take j).filter (fun z => decide (0 ≤ z)) = F j := ⟨fun j => (zs.take j).filter (fun z => decide (0 ≤ z)), fun _ => rfl⟩
  have HF0 : Hid (F 0 = []) := by show _ = _; rw [← hF]; simp
  simp only [hF] at HF HL HE
  rw [← HE.out]
  clear hr hF
  go_enter Try.func64, Try.ntmps64
  go_wp2
  go_loopw [3, 11] (fun v i wr => ∃ j : Nat, i = .int .i64 (j : Int) ∧ j ≤ zs.length ∧ Hid (ownI wr w.heap.size v (F j)) ∧ Below w.heap.size w wr) (fun _ i _ => zs.length - (intOf i).toNat)
  case atStart => exact ⟨0, rfl, Nat.zero_le _, by show ownI _ _ _ _; rw [HF0.out]; exact ownI_nil _ _, Below.refl _ _⟩
  case round =>
    obtain ⟨j, rfl, hjl, HO, hb⟩ := hrel
    by_cases hlt : j < zs.length
    · obtain ⟨gf, off, rfl, -, hcf⟩ := rdI_later HR.out hb j hlt
      have hF1 := HF.out j hlt
      have hL1 := HL.out j
      generalize zs[j] = z at hF1 hcf
      by_cases hz : 0 ≤ z
      · rw [if_pos (decide_eq_true hz)] at hF1
        have HF1 : Hid (F (j + 1) = F j ++ [z]) := hF1
        clear hF1
        go_wp2_with (at_builtin; refine wpList_appendI rfl _ _ rfl w.heap.size _ (F j) rfl (ownI_alloc _ HO.out) ⟨wr.heap.size, 0, none⟩ [z] 1 1 rfl rfl ?hsrc ?hlen w (hb.alloc hb.size _) (Nat.le_refl _) ?_)
        case hsrc => exact src_int wr z
        case hlen => rw [List.length_singleton]; omega
        intro v4 w4 O4 B4
        have O5 : Hid (ownI w4 w.heap.size v4 (F (j + 1))) := by show ownI _ _ _ _; rw [HF1.out]; exact O4
        go_wp2
        go_roundw
        case rel => exact ⟨j + 1, by go_num, by omega, O5, B4⟩
        case measure => simp [intOf]; omega
      · rw [if_neg (by simpa using hz), List.append_nil] at hF1
        have O6 := HO.out
        rw [← hF1] at O6
        have O5 : Hid _ := O6
        clear O6
        clear hF1
        go_wp2
        go_roundw
        case rel => exact ⟨j + 1, by go_num, by omega, O5, hb⟩
        case measure => simp [intOf]; omega
    · obtain rfl : j = zs.length := by omega
      go_wp2
      go_ret
      exact ⟨_, rfl, HO.out, hb⟩

set_option maxHeartbeats 1000000 in
theorem without_calls (w : World) (f : Option Addr) (c : Nat) (zs : List Int) (n : Int) (hr : RdI w f zs) (hl : zs.length ≤ 16777215) :
    Calls Try.prog 65 #[.slice f zs.length c, .int .i64 n] w fun e w' => ∃ x, e = .returned x ∧ ownI w' w.heap.size x (zs.filter (fun z => decide (z ≠ n))) ∧ Below w.heap.size w w' := by
  have HR : Hid (RdI w f zs) := hr
  have HF : Hid (∀ j (h : j < zs.length), (zs.take (j + 1)).filter (fun z => decide (z ≠ n)) = (zs.take j).filter (fun z => decide (z ≠ n)) ++ (if decide (zs[j] ≠ n) = true then [zs[j]] else [])) := fun j h => filter_take _ zs j h
  have HL : Hid (∀ j, ((zs.take j).filter (fun z => decide (z ≠ n))).length ≤ j) := fun j => by
    have h1 := List.length_filter_le (fun z => decide (z ≠ n)) (zs.take j)
    rw [List.length_take] at h1
    omega
  have HE : Hid ((zs.take zs.length).filter (fun z => decide (z ≠ n)) = zs.filter (fun z => decide (z ≠ n))) := by show _ = _; rw [List.take_length]
  obtain ⟨F, hF⟩ : ∃ F : Nat → List Int, ∀ j, (zs.take j).filter (fun z => decide (z ≠ n)) = F j := ⟨fun j => (zs.take j).filter (fun z => decide (z ≠ n)), fun _ => rfl⟩
  have HF0 : Hid (F 0 = []) := by show _ = _; rw [← hF]; simp
  simp only [hF] at HF HL HE
  rw [← HE.out]
  clear hr hF
  go_enter Try.func65, Try.ntmps65
  go_wp2
  go_loopw [5, 10] (fun v i wr => ∃ j : Nat, i = .int .i64 (j : Int) ∧ j ≤ zs.length ∧ Hid (ownI wr w.heap.size v (F j)) ∧ Below w.heap.size w wr) (fun _ i _ => zs.length - (intOf i).toNat)
  case atStart => exact ⟨0, rfl, Nat.zero_le _, by show ownI _ _ _ _; rw [HF0.out]; exact ownI_nil _ _, Below.refl _ _⟩
  case round =>
    obtain ⟨j, rfl, hjl, HO, hb⟩ := hrel
    by_cases hlt : j < zs.length
    · obtain ⟨gf, off, rfl, -, hcf⟩ := rdI_later HR.out hb j hlt
      have hF1 := HF.out j hlt
      have hL1 := HL.out j
      generalize zs[j] = z at hF1 hcf
      by_cases hz : z = n
      · rw [if_neg (by simpa using hz), List.append_nil] at hF1
        have O6 := HO.out
        rw [← hF1] at O6
        have O5 : Hid _ := O6
        clear O6
        clear hF1
        subst hz
        go_wp2
        go_roundw
        case rel => exact ⟨j + 1, by go_num, by omega, O5, hb⟩
        case measure => simp [intOf]; omega
      · rw [if_pos (by simpa using hz)] at hF1
        have HF1 : Hid (F (j + 1) = F j ++ [z]) := hF1
        clear hF1
        go_wp2_with (at_builtin; refine wpList_appendI rfl _ _ rfl w.heap.size _ (F j) rfl (ownI_alloc _ HO.out) ⟨wr.heap.size, 0, none⟩ [z] 1 1 rfl rfl ?hsrc ?hlen w (hb.alloc hb.size _) (Nat.le_refl _) ?_)
        case hsrc => exact src_int wr z
        case hlen => rw [List.length_singleton]; omega
        intro v4 w4 O4 B4
        have O5 : Hid (ownI w4 w.heap.size v4 (F (j + 1))) := by show ownI _ _ _ _; rw [HF1.out]; exact O4
        go_wp2
        go_roundw
        case rel => exact ⟨j + 1, by go_num, by omega, O5, B4⟩
        case measure => simp [intOf]; omega
    · obtain rfl : j = zs.length := by omega
      go_wp2
      go_ret
      exact ⟨_, rfl, HO.out, hb⟩

theorem suspect_no (w : World) (vb : Value) (g p : Nat) (id : Int) (hc : w.cell? ⟨g, p + 7, none⟩ = some (.bool true)) :
    Calls Try.prog 63 #[vb, .pointer (some ⟨g, p, none⟩), .int .i64 id] w fun e w' => e = .returned vb ∧ w' = w := by
  go_enter Try.func63, Try.ntmps63
  go_wp2
  go_ret
  exact ⟨rfl, rfl⟩
theorem suspect_yes (w : World) (B : Nat) (vb : Value) (g p : Nat) (id : Int) (Z : List Int) (hc : w.cell? ⟨g, p + 7, none⟩ = some (.bool false)) (hz : w.frozen? ⟨g, p + 7, none⟩ = false) (ho : ownI w B vb Z) (hg : vb.ownBlock ≠ some g) (hl : Z.length ≤ 16777215) (hB : B ≤ w.heap.size) :
    Calls Try.prog 63 #[vb, .pointer (some ⟨g, p, none⟩), .int .i64 id] w fun e w' => ∃ v', e = .returned v' ∧ ownI w' B v' (Z ++ [id]) ∧ w.heap.size ≤ w'.heap.size ∧ (∀ i, i < w.heap.size → vb.ownBlock ≠ some i → w'.heap[i]? = (w.setCell ⟨g, p + 7, none⟩ (.bool true)).heap[i]?) ∧ (v'.ownBlock = vb.ownBlock ∨ ∃ g', v'.ownBlock = some g' ∧ w.heap.size ≤ g') ∧ (∀ C w0, Below C w0 (w.setCell ⟨g, p + 7, none⟩ (.bool true)) → C ≤ B → Below C w0 w') := by
  obtain ⟨X, hX⟩ : ∃ X, X = (w.setCell ⟨g, p + 7, none⟩ (.bool true)).alloc (.cells #[.int .i64 id] 3) := ⟨_, rfl⟩
  have hXs : X.heap.size = w.heap.size + 1 := by rw [hX]; simp [World.setCell]
  have hS : (w.setCell ⟨g, p + 7, none⟩ (.bool true)).heap.size = w.heap.size := by simp [World.setCell]
  have HO : Hid (ownI X B vb Z) := by
    show ownI _ _ _ _
    rw [hX]
    exact ownI_alloc _ (ownI_same ho (fun i hi => heap_setCell_other _ _ _ _ (by exact fun e => hg (by rw [hi, e]))))
  have HC : Hid (X.cell? ⟨w.heap.size, 0, none⟩ = some (.int .i64 id)) := by
    show _ = _
    rw [hX, ← hS, World.cell?_alloc_mark]
    rfl
  have HX : Hid (∀ i, i < w.heap.size → X.heap[i]? = (w.setCell ⟨g, p + 7, none⟩ (.bool true)).heap[i]?) := fun i hi => by rw [hX]; exact heap_alloc_old _ _ (by rw [hS]; exact hi)
  have HXB : Hid (∀ C w0, Below C w0 (w.setCell ⟨g, p + 7, none⟩ (.bool true)) → C ≤ B → Below C w0 X) := fun C w0 h hC => by rw [hX]; exact h.alloc (by rw [hS]; omega) _
  clear ho
  go_enter Try.func63, Try.ntmps63
  go_wp2_with (at_builtin; rw [← hX]; clear hX; refine wpList_appendL rfl _ _ rfl B vb Z rfl HO.out ⟨w.heap.size, 0, none⟩ id rfl HC.out hl (by omega) ?_)
  intro v' w' h1 h2 h3 h4 h5
  have hsz : w.heap.size ≤ w'.heap.size := by omega
  have HA : Hid (∀ i, i < w.heap.size → vb.ownBlock ≠ some i → w'.heap[i]? = (w.setCell ⟨g, p + 7, none⟩ (.bool true)).heap[i]?) := fun i hi hne => (h3.out i (by omega) hne).trans (HX.out i hi)
  have HBB : Hid (v'.ownBlock = vb.ownBlock ∨ ∃ g', v'.ownBlock = some g' ∧ w.heap.size ≤ g') := by
    rcases h4.out with e | e
    · exact .inl e
    · exact .inr ⟨_, e, by omega⟩
  have HD : Hid (∀ C w0, Below C w0 (w.setCell ⟨g, p + 7, none⟩ (.bool true)) → C ≤ B → Below C w0 w') := fun C w0 h hC => h5.out C w0 (HXB.out C w0 h hC) hC
  clear h2 hXs hS
  go_wp2
  go_ret
  exact ⟨_, rfl, h1, hsz, HA.out, HBB.out, HD.out⟩

end Go.Proofs.Ytjhdnachbahbmaa
