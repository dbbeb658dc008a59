/- What impl.Whites and impl.slotsLedTo make. -/
import Derived.Test.YtjhceoejblmihaaRingWalks
import Derived.Test.YtjhceoejblmihaaISlotWalks
namespace Go.Proofs.Ytjhceoejblmihaa
open Go.RowKit
set_option linter.unusedVariables false
set_option maxRecDepth 100000

theorem iWhites_calls (v : Value) (T : TrialD) (w : World) (h : RdT w v T) (hs : SmallT T) :
    Calls Try.prog 21 #[v] w fun e w' => ∃ u, e = .returned u ∧ ownI w' w.heap.size u (whites T) ∧ Below w.heap.size w w' := by
  obtain ⟨aa, ac, ab, ad, rfl, -, ri⟩ := h
  have hn := hs.colors
  clear hs
  obtain ⟨W, hW⟩ : ∃ W, W = w.alloc (.cells #[.slice aa T.counts.length ac, .slice ab T.colors.length ad] 30) := ⟨_, rfl⟩
  have BW : Below w.heap.size w W := by rw [hW]; exact (Below.refl _ _).alloc (Nat.le_refl _) _
  have hsW : W.heap.size = w.heap.size + 1 := by rw [hW]; simp
  have hp : W.cell? ⟨w.heap.size, 1, none⟩ = some (.slice ab T.colors.length ad) := by rw [hW, World.cell?_alloc_mark]; rfl
  have H0 : Hid (whites T = [] ++ whiteL (T.colors.drop 0) ((0 : Nat) : Int)) := by show _ = _; unfold whites; rw [List.drop_zero]; rfl
  have HS : Hid (∀ (j : Nat) (h : j < T.colors.length), _) := fun j h => white_step T.colors j h
  have HN : Hid (∀ (j : Nat), T.colors.length ≤ j → whiteL (T.colors.drop j) (j : Int) = []) := fun j h => white_end T.colors j h _
  have HR2 : Hid (∀ X, Below W.heap.size W X → RdI X ab T.colors) := fun X hX => rdI_later (rdI_later ri BW) hX
  generalize whites T = Z at *
  generalize T.counts.length = nc at *
  generalize T.colors = zs at *
  obtain ⟨n, hnn⟩ : ∃ n, zs.length = n := ⟨_, rfl⟩
  have Hn : Hid (zs.length = n) := hnn
  rw [hnn] at hn hp hW ⊢
  clear ri hnn
  have HP : Hid (∀ X, Below W.heap.size W X → X.cell? ⟨w.heap.size, 1, none⟩ = some (.slice ab n ad)) := fun X hX => (hX.cell (p := ⟨w.heap.size, 1, none⟩) (by show w.heap.size < _; omega)).trans hp
  have HsW : Hid (W.heap.size = w.heap.size + 1) := hsW
  clear hp hsW
  go_enter Try.func21, Try.ntmps21
  go_wp2
  rw [← hW]
  clear hW
  go_loopw [3, 9] (fun v i wr => ∃ (j : Nat) (P : List Int), j ≤ n ∧ i = .int .i64 j ∧ P.length ≤ j ∧ Hid (Z = P ++ whiteL (zs.drop j) (j : Int)) ∧ ownI wr W.heap.size v P ∧ Below W.heap.size W wr) (fun _ i _ => n - (intOf i).toNat)
  case atStart => exact ⟨0, [], by omega, rfl, by simp, H0, ownI_nil _ _, Below.refl _ _⟩
  case round =>
    obtain ⟨j, P, hj, rfl, hPl, HJ, hown, hb⟩ := hrel
    have hp := HP.out _ hb
    by_cases hlt : j < n
    · have hj2 : j < zs.length := by have := Hn.out; omega
      obtain ⟨g, off, rfl, -, hc⟩ := HR2.out _ hb j hj2
      have HD : Hid (_ = _) := HS.out j hj2
      generalize zs[j] = z at *
      by_cases hz : z = 2
      · subst hz
        have HZ : Hid (Z = (P ++ [(j : Int)]) ++ whiteL (zs.drop (j + 1)) ((j + 1 : Nat) : Int)) := by show _ = _; rw [HJ.out, HD.out, if_pos rfl]; simp
        clear HD
        go_wp2_with (at_builtin; refine wpList_appendI rfl _ _ rfl W.heap.size _ P rfl (ownI_alloc _ hown) ⟨wr.heap.size, 0, none⟩ [(j : Int)] 1 1 rfl rfl ?hsrc ?hlen W (hb.alloc hb.size _) (Nat.le_refl _) ?_)
        case hsrc => exact src_int wr (j : Int)
        case hlen => rw [List.length_singleton]; omega
        · intro v4 w4 O4 B4
          go_wp2
          go_roundw
          case rel => exact ⟨j + 1, P ++ [(j : Int)], by omega, by go_num, by rw [List.length_append, List.length_singleton]; omega, HZ, O4, B4⟩
          case measure => simp [intOf]; omega
      · have HZ : Hid (Z = P ++ whiteL (zs.drop (j + 1)) ((j + 1 : Nat) : Int)) := by show _ = _; rw [HJ.out, HD.out, if_neg hz]
        clear HD
        go_wp2
        go_roundw
        case rel => exact ⟨j + 1, P, by omega, by go_num, by omega, HZ, hown, hb⟩
        case measure => simp [intOf]; omega
    · obtain rfl : j = n := by omega
      have HZ : Hid (Z = P) := by show _ = _; rw [HJ.out, HN.out j (by have := Hn.out; omega), List.append_nil]
      go_wp2
      go_ret
      exact ⟨_, rfl, HZ.out ▸ ownI_mono hown BW.size, BW.trans (hb.mono BW.size)⟩

theorem iKids_calls (v : Value) (H : HeapD) (s : Nat) (w : World) (h : RdH w v H) (hs : SmallH H) (hl : s < H.objs.length) (hf : ∀ z ∈ H.objs[s].field, in64 z) :
    Calls Try.prog 100 #[v, .int .i64 (s : Int)] w fun e w' => ∃ u, e = .returned u ∧ ownI w' w.heap.size u (kidL H H.objs[s].field) ∧ Below w.heap.size w w' := by
  have HRH : Hid (RdH w v H) := h
  obtain ⟨ao, co, aw, cw, ab, cb, sa, sc, rfl, ro, -, -, -⟩ := h
  have hn := hs.objs
  have hfl := hs.fields _ (List.getElem_mem hl)
  clear hs
  obtain ⟨W, hW⟩ : ∃ W, W = w.alloc (.cells #[.slice ao H.objs.length co, .slice aw H.weaks.length cw, .slice ab H.buffer.length cb, .slice sa H.sites.length sc] 35) := ⟨_, rfl⟩
  have BW : Below w.heap.size w W := by rw [hW]; exact (Below.refl _ _).alloc (Nat.le_refl _) _
  have hsW : W.heap.size = w.heap.size + 1 := by rw [hW]; simp
  have hp0 : W.cell? ⟨w.heap.size, 0, none⟩ = some (.slice ao H.objs.length co) := by rw [hW, World.cell?_alloc_mark]; rfl
  have hp1 : W.cell? ⟨w.heap.size, 1, none⟩ = some (.slice aw H.weaks.length cw) := by rw [hW, World.cell?_alloc_mark]; rfl
  have hp2 : W.cell? ⟨w.heap.size, 2, none⟩ = some (.slice ab H.buffer.length cb) := by rw [hW, World.cell?_alloc_mark]; rfl
  have hp3 : W.cell? ⟨w.heap.size, 3, none⟩ = some (.slice sa H.sites.length sc) := by rw [hW, World.cell?_alloc_mark]; rfl
  obtain ⟨g, off, f, fc, rfl, hg, hc, hr⟩ := ro s hl
  have hc6 := hc.c6
  have hcW : W.cell? ⟨g, off + s * 8 + 6, none⟩ = some (.slice f H.objs[s].field.length fc) := (BW.cell (p := ⟨g, off + s * 8 + 6, none⟩) hg).trans hc6
  have hrW : RdI W f H.objs[s].field := rdI_later hr BW
  have HRW : Hid (RdH W _ H) := rdH_later HRH.out BW
  have hgW : g < W.heap.size := by omega
  have HFC : Hid (∀ X, Below W.heap.size W X → X.cell? ⟨g, off + s * 8 + 6, none⟩ = some (.slice f H.objs[s].field.length fc)) := fun X hX => (hX.cell (p := ⟨g, off + s * 8 + 6, none⟩) hgW).trans hcW
  have HRI : Hid (∀ X, Below W.heap.size W X → RdI X f H.objs[s].field) := fun X hX => rdI_later hrW hX
  have HRX : Hid (∀ X, Below W.heap.size W X → RdH X _ H) := fun X hX => rdH_later HRW.out hX
  have HF : Hid (∀ z ∈ H.objs[s].field, in64 z) := hf
  clear hc hc6 hcW hr hrW HRW HRH ro hf hg
  generalize H.objs[s].field = zs at *
  have H0 : Hid (kidL H zs = [] ++ kidL H (zs.drop 0)) := by show _ = _; rw [List.drop_zero]; rfl
  have HS : Hid (∀ (j : Nat) (h : j < zs.length), _) := fun j h => kid_step H zs j h
  have HN : Hid (∀ (j : Nat), zs.length ≤ j → kidL H (zs.drop j) = []) := fun j h => kid_end H zs j h
  generalize hZ : kidL H zs = Z at *
  clear hZ
  obtain ⟨n, hnn⟩ : ∃ n, H.objs.length = n := ⟨_, rfl⟩
  have Hn : Hid (H.objs.length = n) := hnn
  have CS : Hid (∀ (z : Int) X, in64 z → RdH X _ H → _) := fun z X hz hX => iSlotOf_calls (.agg #[.slice (some ⟨g, off, none⟩) H.objs.length co, .slice aw H.weaks.length cw, .slice ab H.buffer.length cb, .slice sa H.sites.length sc]) H z X hX (by omega) hz.1 hz.2
  rw [hnn] at hn hp0 hW hl CS HRX ⊢
  clear hnn
  have hlt0 : w.heap.size < W.heap.size := by omega
  have HP : Hid (∀ X, Below W.heap.size W X → X.cell? ⟨w.heap.size, 0, none⟩ = some (.slice (some ⟨g, off, none⟩) n co) ∧ X.cell? ⟨w.heap.size, 1, none⟩ = some (.slice aw H.weaks.length cw) ∧ X.cell? ⟨w.heap.size, 2, none⟩ = some (.slice ab H.buffer.length cb) ∧ X.cell? ⟨w.heap.size, 3, none⟩ = some (.slice sa H.sites.length sc)) := fun X hX => ⟨(hX.cell (p := ⟨w.heap.size, 0, none⟩) hlt0).trans hp0, (hX.cell (p := ⟨w.heap.size, 1, none⟩) hlt0).trans hp1, (hX.cell (p := ⟨w.heap.size, 2, none⟩) hlt0).trans hp2, (hX.cell (p := ⟨w.heap.size, 3, none⟩) hlt0).trans hp3⟩
  have HsW : Hid (W.heap.size = w.heap.size + 1) := hsW
  clear hp0 hp1 hp2 hp3 hsW hlt0 hgW
  have w6 := HFC.out _ (Below.refl _ _)
  rw [hW] at w6
  have i0 : (s : Int) < (n : Int) := by omega
  go_enter Try.func100, Try.ntmps100
  go_wp2
  rw [← hW]
  clear hW w6
  go_loopw [5, 16] (fun v i wr => ∃ (j : Nat) (P : List Int), j ≤ zs.length ∧ i = .int .i64 j ∧ P.length ≤ j ∧ Hid (Z = P ++ kidL H (zs.drop j)) ∧ ownI wr W.heap.size v P ∧ Below W.heap.size W wr) (fun _ i _ => zs.length - (intOf i).toNat)
  case atStart => exact ⟨0, [], by omega, rfl, by simp, H0, ownI_nil _ _, Below.refl _ _⟩
  case round =>
    obtain ⟨j, P, hj, rfl, hPl, HJ, hown, hb⟩ := hrel
    obtain ⟨p0, p1, p2, p3⟩ := HP.out _ hb
    have hfc := HFC.out _ hb
    by_cases hlt : j < zs.length
    · obtain ⟨fg, fo, rfl, hfg, hcz⟩ := HRI.out _ hb j hlt
      have HD : Hid (_ = _) := HS.out j hlt
      have hz64 := HF.out _ (List.getElem_mem hlt)
      generalize zs[j] = z at *
      have CSX : Hid (∀ X, Below W.heap.size W X → _) := fun X hX => CS.out z X hz64 (HRX.out X hX)
      have i2 : (j : Int) < (zs.length : Int) := by omega
      obtain ⟨sl, hsl⟩ : ∃ sl, slotZ H z = sl := ⟨_, rfl⟩
      have hsl7 : -1 ≤ sl ∧ sl ≤ 7 := by
        rw [← hsl]
        unfold slotZ
        split
        · omega
        · split
          · omega
          · split <;> omega
      rw [hsl] at HD CSX
      clear hsl
      go_wp2_with fail
      refine (CSX.out _ hb).mono ?_
      rintro e X ⟨rfl, hX⟩
      have hown2 := ownI_later hown hX
      have hb2 := hb.trans (hX.mono hb.size)
      clear CSX hown hb p0 p1 p2 p3 hfc hcz
      by_cases hz : 0 ≤ sl
      · have HZ : Hid (Z = (P ++ [sl]) ++ kidL H (zs.drop (j + 1))) := by show _ = _; rw [HJ.out, HD.out, if_pos hz]; simp
        clear HD
        go_wp2_with (at_builtin; refine wpList_appendI rfl _ _ rfl W.heap.size _ P rfl (ownI_alloc _ hown2) ⟨X.heap.size, 0, none⟩ [sl] 1 1 rfl rfl ?hsrc ?hlen W (hb2.alloc hb2.size _) (Nat.le_refl _) ?_)
        case hsrc => exact src_int X sl
        case hlen => rw [List.length_singleton]; omega
        · intro v4 w4 O4 B4
          go_wp2
          go_roundw
          case rel => exact ⟨j + 1, P ++ [sl], by omega, by go_num, by rw [List.length_append, List.length_singleton]; omega, HZ, O4, B4⟩
          case measure => simp [intOf]; omega
      · have HZ : Hid (Z = P ++ kidL H (zs.drop (j + 1))) := by show _ = _; rw [HJ.out, HD.out, if_neg hz]
        clear HD
        go_wp2
        go_roundw
        case rel => exact ⟨j + 1, P, by omega, by go_num, by omega, HZ, hown2, hb2⟩
        case measure => simp [intOf]; omega
    · have e : zs.length ≤ j := by omega
      have HZ : Hid (Z = P) := by show _ = _; rw [HJ.out, HN.out j e, List.append_nil]
      go_wp2
      go_ret
      exact ⟨_, rfl, HZ.out ▸ ownI_mono hown BW.size, BW.trans (hb.mono BW.size)⟩

end Go.Proofs.Ytjhceoejblmihaa
