/- Trials; what spec.Whites and spec.l7Kids make. -/
import Derived.Test.YtjhceoejblmihaaSHeapWalks
import Derived.Test.YtjhceoejblmihaaHeapMark
import Derived.Test.YtjhceoejblmihaaAnyOps
namespace Go.Proofs.Ytjhceoejblmihaa
open Go.RowKit
set_option linter.unusedVariables false
set_option maxRecDepth 100000

/-- A trial: counts and colors. -/
structure TrialD where
  counts : List Int
  colors : List Int
/-- A trial's value, as one who only reads has it. -/
def RdT (w : World) (v : Value) (T : TrialD) : Prop := ∃ a c b d, v = .agg #[.slice a T.counts.length c, .slice b T.colors.length d] ∧ RdI w a T.counts ∧ RdI w b T.colors
theorem rdT_later {w w' : World} {v : Value} {T : TrialD} (h : RdT w v T) (hb : Below w.heap.size w w') : RdT w' v T := by
  obtain ⟨a, c, b, d, h1, h2, h3⟩ := h
  exact ⟨a, c, b, d, h1, rdI_later h2 hb, rdI_later h3 hb⟩
structure SmallT (T : TrialD) : Prop where
  counts : T.counts.length ≤ 1048576
  colors : T.colors.length ≤ 1048576

def whiteL : List Int → Int → List Int
  | [], _ => []
  | z :: r, i => if z = 2 then i :: whiteL r (i + 1) else whiteL r (i + 1)
/-- The slots that are white. -/
def whites (T : TrialD) : List Int := whiteL T.colors 0
theorem white_step (zs : List Int) (j : Nat) (h : j < zs.length) : whiteL (zs.drop j) (j : Int) = if zs[j] = 2 then (j : Int) :: whiteL (zs.drop (j + 1)) ((j + 1 : Nat) : Int) else whiteL (zs.drop (j + 1)) ((j + 1 : Nat) : Int) := by
  rw [List.drop_eq_getElem_cons h]; simp [whiteL]
theorem white_end (zs : List Int) (j : Nat) (h : zs.length ≤ j) (i : Int) : whiteL (zs.drop j) i = [] := by
  rw [List.drop_eq_nil_of_le h]; rfl

theorem sWhites_calls (v : Value) (T : TrialD) (w : World) (h : RdT w v T) (hs : SmallT T) :
    Calls Try.prog 19 #[v] w fun e w' => ∃ u, e = .returned u ∧ ownI w' w.heap.size u (whites T) ∧ Below w.heap.size w w' := by
  obtain ⟨aa, ac, ab, ad, rfl, -, ri⟩ := h
  have hn := hs.colors
  clear hs
  obtain ⟨W, hW⟩ : ∃ W, W = w.alloc (.cells #[.slice aa T.counts.length ac, .slice ab T.colors.length ad] 30) := ⟨_, rfl⟩
  have BW : Below w.heap.size w W := by rw [hW]; exact (Below.refl _ _).alloc (Nat.le_refl _) _
  have hsW : W.heap.size = w.heap.size + 1 := by rw [hW]; simp
  have hp : W.cell? ⟨w.heap.size, 1, none⟩ = some (.slice ab T.colors.length ad) := by rw [hW, World.cell?_alloc_mark]; rfl
  have H0 : Hid (whites T = [] ++ whiteL (T.colors.drop 0) ((0 : Nat) : Int)) := by show _ = _; unfold whites; rw [List.drop_zero]; rfl
  have HS : Hid (∀ (j : Nat) (h : j < T.colors.length), _) := fun j h => white_step T.colors j h
  have HN : Hid (∀ (j : Nat), T.colors.length ≤ j → whiteL (T.colors.drop j) (j : Int) = []) := fun j h => white_end T.colors j h _
  have HR2 : Hid (∀ X, Below W.heap.size W X → RdI X ab T.colors) := fun X hX => rdI_later (rdI_later ri BW) hX
  generalize whites T = Z at *
  generalize T.counts.length = nc at *
  generalize T.colors = zs at *
  obtain ⟨n, hnn⟩ : ∃ n, zs.length = n := ⟨_, rfl⟩
  have Hn : Hid (zs.length = n) := hnn
  rw [hnn] at hn hp hW ⊢
  clear ri hnn
  have O1 : ownI (W.alloc (.cells #[] 3)) W.heap.size (.slice (some ⟨W.heap.size, 0, none⟩) 0 0) [] := ownI_new _ _ (Nat.le_refl _)
  have B1 : Below W.heap.size W (W.alloc (.cells #[] 3)) := (Below.refl _ _).alloc (Nat.le_refl _) _
  have HP : Hid (∀ X, Below W.heap.size W X → X.cell? ⟨w.heap.size, 1, none⟩ = some (.slice ab n ad)) := fun X hX => (hX.cell (p := ⟨w.heap.size, 1, none⟩) (by show w.heap.size < _; omega)).trans hp
  have HsW : Hid (W.heap.size = w.heap.size + 1) := hsW
  clear hp hsW
  go_enter Try.func19, Try.ntmps19
  go_wp2
  rw [← hW]
  clear hW
  go_loopw [3, 4] (fun v i wr => ∃ (j : Nat) (P : List Int), j ≤ n ∧ i = .int .i64 j ∧ P.length ≤ j ∧ Hid (Z = P ++ whiteL (zs.drop j) (j : Int)) ∧ ownI wr W.heap.size v P ∧ Below W.heap.size W wr) (fun _ i _ => n - (intOf i).toNat)
  case atStart => exact ⟨0, [], by omega, rfl, by simp, H0, HsW.out ▸ O1, B1⟩
  case round =>
    obtain ⟨j, P, hj, rfl, hPl, HJ, hown, hb⟩ := hrel
    have hp := HP.out _ hb
    by_cases hlt : j < n
    · have hj2 : j < zs.length := by have := Hn.out; omega
      obtain ⟨g, off, rfl, -, hc⟩ := HR2.out _ hb j hj2
      have HD : Hid (_ = _) := HS.out j hj2
      generalize zs[j] = z at *
      by_cases hz : z = 2
      · subst hz
        have HZ : Hid (Z = (P ++ [(j : Int)]) ++ whiteL (zs.drop (j + 1)) ((j + 1 : Nat) : Int)) := by show _ = _; rw [HJ.out, HD.out, if_pos rfl]; simp
        clear HD
        go_wp2_with (at_builtin; refine wpList_appendI rfl _ _ rfl W.heap.size _ P rfl (ownI_alloc _ hown) ⟨wr.heap.size, 0, none⟩ [(j : Int)] 1 1 rfl rfl ?hsrc ?hlen W (hb.alloc hb.size _) (Nat.le_refl _) ?_)
        case hsrc => exact src_int wr (j : Int)
        case hlen => rw [List.length_singleton]; omega
        · intro v4 w4 O4 B4
          go_wp2
          go_roundw
          case rel => exact ⟨j + 1, P ++ [(j : Int)], by omega, by go_num, by rw [List.length_append, List.length_singleton]; omega, HZ, O4, B4⟩
          case measure => simp [intOf]; omega
      · have HZ : Hid (Z = P ++ whiteL (zs.drop (j + 1)) ((j + 1 : Nat) : Int)) := by show _ = _; rw [HJ.out, HD.out, if_neg hz]
        clear HD
        go_wp2
        go_roundw
        case rel => exact ⟨j + 1, P, by omega, by go_num, by omega, HZ, hown, hb⟩
        case measure => simp [intOf]; omega
    · obtain rfl : j = n := by omega
      have HZ : Hid (Z = P) := by show _ = _; rw [HJ.out, HN.out j (by have := Hn.out; omega), List.append_nil]
      go_wp2
      go_ret
      exact ⟨_, rfl, HZ.out ▸ ownI_mono hown BW.size, BW.trans (hb.mono BW.size)⟩

/-- The slots to which ids lead, one for each that does. -/
def kidL (H : HeapD) : List Int → List Int
  | [] => []
  | z :: r => if 0 ≤ slotZ H z then slotZ H z :: kidL H r else kidL H r
theorem kid_step (H : HeapD) (zs : List Int) (j : Nat) (h : j < zs.length) : kidL H (zs.drop j) = if 0 ≤ slotZ H zs[j] then slotZ H zs[j] :: kidL H (zs.drop (j + 1)) else kidL H (zs.drop (j + 1)) := by
  rw [List.drop_eq_getElem_cons h]; simp [kidL]
theorem kid_end (H : HeapD) (zs : List Int) (j : Nat) (h : zs.length ≤ j) : kidL H (zs.drop j) = [] := by
  rw [List.drop_eq_nil_of_le h]; rfl
theorem kidL_le (H : HeapD) (zs : List Int) : (kidL H zs).length ≤ zs.length := by
  induction zs with
  | nil => simp [kidL]
  | cons z r ih => unfold kidL; split <;> simp <;> omega

theorem sKids_calls (v : Value) (H : HeapD) (s : Nat) (w : World) (h : RdH w v H) (hs : SmallH H) (hl : s < H.objs.length) (hf : ∀ z ∈ H.objs[s].field, in64 z) :
    Calls Try.prog 59 #[v, .int .i64 (s : Int)] w fun e w' => ∃ u, e = .returned u ∧ ownI w' w.heap.size u (kidL H H.objs[s].field) ∧ Below w.heap.size w w' := by
  have HRH : Hid (RdH w v H) := h
  obtain ⟨ao, co, aw, cw, ab, cb, sa, sc, rfl, ro, -, -, -⟩ := h
  have hn := hs.objs
  have hfl := hs.fields _ (List.getElem_mem hl)
  clear hs
  obtain ⟨W, hW⟩ : ∃ W, W = w.alloc (.cells #[.slice ao H.objs.length co, .slice aw H.weaks.length cw, .slice ab H.buffer.length cb, .slice sa H.sites.length sc] 35) := ⟨_, rfl⟩
  have BW : Below w.heap.size w W := by rw [hW]; exact (Below.refl _ _).alloc (Nat.le_refl _) _
  have hsW : W.heap.size = w.heap.size + 1 := by rw [hW]; simp
  have hp0 : W.cell? ⟨w.heap.size, 0, none⟩ = some (.slice ao H.objs.length co) := by rw [hW, World.cell?_alloc_mark]; rfl
  have hp1 : W.cell? ⟨w.heap.size, 1, none⟩ = some (.slice aw H.weaks.length cw) := by rw [hW, World.cell?_alloc_mark]; rfl
  have hp2 : W.cell? ⟨w.heap.size, 2, none⟩ = some (.slice ab H.buffer.length cb) := by rw [hW, World.cell?_alloc_mark]; rfl
  have hp3 : W.cell? ⟨w.heap.size, 3, none⟩ = some (.slice sa H.sites.length sc) := by rw [hW, World.cell?_alloc_mark]; rfl
  obtain ⟨g, off, f, fc, rfl, hg, hc, hr⟩ := ro s hl
  have hc6 := hc.c6
  have hcW : W.cell? ⟨g, off + s * 8 + 6, none⟩ = some (.slice f H.objs[s].field.length fc) := (BW.cell (p := ⟨g, off + s * 8 + 6, none⟩) hg).trans hc6
  have hrW : RdI W f H.objs[s].field := rdI_later hr BW
  have HRW : Hid (RdH W _ H) := rdH_later HRH.out BW
  have hgW : g < W.heap.size := by omega
  have HFC : Hid (∀ X, Below W.heap.size W X → X.cell? ⟨g, off + s * 8 + 6, none⟩ = some (.slice f H.objs[s].field.length fc)) := fun X hX => (hX.cell (p := ⟨g, off + s * 8 + 6, none⟩) hgW).trans hcW
  have HRI : Hid (∀ X, Below W.heap.size W X → RdI X f H.objs[s].field) := fun X hX => rdI_later hrW hX
  have HRX : Hid (∀ X, Below W.heap.size W X → RdH X _ H) := fun X hX => rdH_later HRW.out hX
  have HF : Hid (∀ z ∈ H.objs[s].field, in64 z) := hf
  clear hc hc6 hcW hr hrW HRW HRH ro hf hg
  generalize H.objs[s].field = zs at *
  have H0 : Hid (kidL H zs = [] ++ kidL H (zs.drop 0)) := by show _ = _; rw [List.drop_zero]; rfl
  have HS : Hid (∀ (j : Nat) (h : j < zs.length), _) := fun j h => kid_step H zs j h
  have HN : Hid (∀ (j : Nat), zs.length ≤ j → kidL H (zs.drop j) = []) := fun j h => kid_end H zs j h
  generalize hZ : kidL H zs = Z at *
  clear hZ
  obtain ⟨n, hnn⟩ : ∃ n, H.objs.length = n := ⟨_, rfl⟩
  have Hn : Hid (H.objs.length = n) := hnn
  have CS : Hid (∀ (z : Int) X, in64 z → RdH X _ H → _) := fun z X hz hX => sSlotOf_calls (.agg #[.slice (some ⟨g, off, none⟩) H.objs.length co, .slice aw H.weaks.length cw, .slice ab H.buffer.length cb, .slice sa H.sites.length sc]) H z X hX (by omega) hz.1 hz.2
  rw [hnn] at hn hp0 hW hl CS HRX ⊢
  clear hnn
  have O1 : ownI (W.alloc (.cells #[] 3)) W.heap.size (.slice (some ⟨W.heap.size, 0, none⟩) 0 0) [] := ownI_new _ _ (Nat.le_refl _)
  have B1 : Below W.heap.size W (W.alloc (.cells #[] 3)) := (Below.refl _ _).alloc (Nat.le_refl _) _
  have hlt0 : w.heap.size < W.heap.size := by omega
  have HP : Hid (∀ X, Below W.heap.size W X → X.cell? ⟨w.heap.size, 0, none⟩ = some (.slice (some ⟨g, off, none⟩) n co) ∧ X.cell? ⟨w.heap.size, 1, none⟩ = some (.slice aw H.weaks.length cw) ∧ X.cell? ⟨w.heap.size, 2, none⟩ = some (.slice ab H.buffer.length cb) ∧ X.cell? ⟨w.heap.size, 3, none⟩ = some (.slice sa H.sites.length sc)) := fun X hX => ⟨(hX.cell (p := ⟨w.heap.size, 0, none⟩) hlt0).trans hp0, (hX.cell (p := ⟨w.heap.size, 1, none⟩) hlt0).trans hp1, (hX.cell (p := ⟨w.heap.size, 2, none⟩) hlt0).trans hp2, (hX.cell (p := ⟨w.heap.size, 3, none⟩) hlt0).trans hp3⟩
  have HsW : Hid (W.heap.size = w.heap.size + 1) := hsW
  clear hp0 hp1 hp2 hp3 hsW hlt0 hgW
  go_enter Try.func59, Try.ntmps59
  go_wp2
  rw [← hW]
  clear hW
  go_loopw [5, 6] (fun v i wr => ∃ (j : Nat) (P : List Int), j ≤ zs.length ∧ i = .int .i64 j ∧ P.length ≤ j ∧ Hid (Z = P ++ kidL H (zs.drop j)) ∧ ownI wr W.heap.size v P ∧ Below W.heap.size W wr) (fun _ i _ => zs.length - (intOf i).toNat)
  case atStart => exact ⟨0, [], by omega, rfl, by simp, H0, HsW.out ▸ O1, B1⟩
  case round =>
    obtain ⟨j, P, hj, rfl, hPl, HJ, hown, hb⟩ := hrel
    obtain ⟨p0, p1, p2, p3⟩ := HP.out _ hb
    have hfc := HFC.out _ hb
    by_cases hlt : j < zs.length
    · obtain ⟨fg, fo, rfl, hfg, hcz⟩ := HRI.out _ hb j hlt
      have HD : Hid (_ = _) := HS.out j hlt
      have hz64 := HF.out _ (List.getElem_mem hlt)
      generalize zs[j] = z at *
      have hne := LaterW.some_ wr
      have HPX : Hid (∀ X : LaterW wr, _) := fun X => HP.out X.on (hb.trans (X.bel.mono hb.size))
      have y0 : ∀ X : LaterW wr, X.on.cell? ⟨w.heap.size, 0, none⟩ = some (.slice (some ⟨g, off, none⟩) n co) := fun X => (HPX.out X).1
      have y1 : ∀ X : LaterW wr, X.on.cell? ⟨w.heap.size, 1, none⟩ = some (.slice aw H.weaks.length cw) := fun X => (HPX.out X).2.1
      have y2 : ∀ X : LaterW wr, X.on.cell? ⟨w.heap.size, 2, none⟩ = some (.slice ab H.buffer.length cb) := fun X => (HPX.out X).2.2.1
      have y3 : ∀ X : LaterW wr, X.on.cell? ⟨w.heap.size, 3, none⟩ = some (.slice sa H.sites.length sc) := fun X => (HPX.out X).2.2.2
      have y6 : ∀ X : LaterW wr, X.on.cell? ⟨g, off + s * 8 + 6, none⟩ = some (.slice (some ⟨fg, fo, none⟩) zs.length fc) := fun X => HFC.out X.on (hb.trans (X.bel.mono hb.size))
      have yz : ∀ X : LaterW wr, X.on.cell? ⟨fg, fo + j, none⟩ = some (.int .i64 z) := fun X => (X.bel.cell (p := ⟨fg, fo + j, none⟩) hfg).trans hcz
      have CSX : Hid (∀ X : LaterW wr, _) := fun X => CS.out z X.on hz64 (HRX.out X.on (hb.trans (X.bel.mono hb.size)))
      have i1 : (s : Int) < (n : Int) := by omega
      have i2 : (j : Int) < (zs.length : Int) := by omega
      clear hcz
      obtain ⟨sl, hsl⟩ : ∃ sl, slotZ H z = sl := ⟨_, rfl⟩
      have hsl7 : -1 ≤ sl ∧ sl ≤ 7 := by
        rw [← hsl]
        unfold slotZ
        split
        · omega
        · split
          · omega
          · split <;> omega
      rw [hsl] at HD CSX
      clear hsl
      go_wp2
      refine wp_region_later wr (Below.refl _ _) (by kernel_rfl) (by kernel_rfl) ?_
      repeat (go_big_quiet_step (first
        | (go_at_call 36; refine (CSX.out _).mono ?_; rintro e w1 ⟨rfl, b1⟩; exact ⟨rfl, LaterW.step _ b1⟩)))
      refine wpQuiet_nil ?_
      intro X hXe
      have hX : Below wr.heap.size wr X := by obtain ⟨q, hq⟩ := hXe; rw [hq]; exact q.bel
      clear hXe
      have hown2 := ownI_later hown hX
      have hb2 := hb.trans (hX.mono hb.size)
      clear y0 y1 y2 y3 y6 yz hne HPX CSX hown hb p0 p1 p2 p3 hfc
      by_cases hz : 0 ≤ sl
      · have HZ : Hid (Z = (P ++ [sl]) ++ kidL H (zs.drop (j + 1))) := by show _ = _; rw [HJ.out, HD.out, if_pos hz]; simp
        clear HD
        go_wp2_with (at_builtin; refine wpList_appendI rfl _ _ rfl W.heap.size _ P rfl (ownI_alloc _ hown2) ⟨X.heap.size, 0, none⟩ [sl] 1 1 rfl rfl ?hsrc ?hlen W (hb2.alloc hb2.size _) (Nat.le_refl _) ?_)
        case hsrc => exact src_int X sl
        case hlen => rw [List.length_singleton]; omega
        · intro v4 w4 O4 B4
          go_wp2
          go_roundw
          case rel => exact ⟨j + 1, P ++ [sl], by omega, by go_num, by rw [List.length_append, List.length_singleton]; omega, HZ, O4, B4⟩
          case measure => simp [intOf]; omega
      · have HZ : Hid (Z = P ++ kidL H (zs.drop (j + 1))) := by show _ = _; rw [HJ.out, HD.out, if_neg hz]
        clear HD
        go_wp2
        go_roundw
        case rel => exact ⟨j + 1, P, by omega, by go_num, by omega, HZ, hown2, hb2⟩
        case measure => simp [intOf]; omega
    · have e : zs.length ≤ j := by omega
      have HZ : Hid (Z = P) := by show _ = _; rw [HJ.out, HN.out j e, List.append_nil]
      go_wp2
      go_ret
      exact ⟨_, rfl, HZ.out ▸ ownI_mono hown BW.size, BW.trans (hb.mono BW.size)⟩

end Go.Proofs.Ytjhceoejblmihaa
