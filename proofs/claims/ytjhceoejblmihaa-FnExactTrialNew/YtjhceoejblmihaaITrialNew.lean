/- What impl.TrialNew makes. -/
import Derived.Test.YtjhceoejblmihaaTrialNew
import Derived.Test.YtjhceoejblmihaaCapForm
import Derived.Shelf.Strconv.Clone
namespace Go.Proofs.Ytjhceoejblmihaa
open Go.RowKit
set_option linter.unusedVariables false
set_option maxRecDepth 100000

set_option maxHeartbeats 4000000 in
theorem iTrialNew_calls (v : Value) (H : HeapD) (w : World) (h : RdH w v H) (hs : SmallH H) (hcap : CapH v) :
    Calls Try.prog 12 #[v] w fun e w' => ∃ s : TSh, e = .returned s.v ∧ TM w' w.heap.size s (trialNew H) ∧ Below w.heap.size w w' := by
  obtain ⟨ao, co, aw, cw, ab, cb, sa, sc, rfl, ro, -, -, -⟩ := h
  have hn := hs.objs
  obtain ⟨_, _, _, _, _, _, _, _, _, _, _, _, ev, hcap, -⟩ := hcap
  simp only [Value.agg.injEq, List.cons.injEq, Value.slice.injEq, Array.mk.injEq] at ev
  obtain ⟨⟨rfl, rfl, rfl⟩, -⟩ := ev
  clear hs
  obtain ⟨W, hW⟩ : ∃ W, W = (w.alloc (.cells #[.slice ao H.objs.length co, .slice aw H.weaks.length cw, .slice ab H.buffer.length cb, .slice sa H.sites.length sc] 35)).alloc (.cells #[.slice none 0 0, .slice none 0 0] 30) := ⟨_, rfl⟩
  have BW : Below w.heap.size w W := by rw [hW]; exact ((Below.refl _ _).alloc (Nat.le_refl _) _).alloc (by simp) _
  have hWs : W.heap.size = w.heap.size + 2 := by rw [hW]; simp
  have p0 : W.cell? ⟨w.heap.size, 0, none⟩ = some (.slice ao H.objs.length co) := by
    have f1 := Four.new w (.slice ao H.objs.length co) (.slice aw H.weaks.length cw) (.slice ab H.buffer.length cb) (.slice sa H.sites.length sc)
    have hb2 : Below (w.heap.size + 1) (w.alloc (.cells #[.slice ao H.objs.length co, .slice aw H.weaks.length cw, .slice ab H.buffer.length cb, .slice sa H.sites.length sc] 35)) W := by rw [hW]; exact (Below.refl _ _).alloc (by simp) _
    exact (hb2.cell (p := ⟨w.heap.size, 0, none⟩) (by simp)).trans (f1.cell 0)
  have FR : Two W (w.heap.size + 1) (.slice none 0 0) (.slice none 0 0) := by
    rw [hW]
    have f1 := Two.new (w.alloc (.cells #[.slice ao H.objs.length co, .slice aw H.weaks.length cw, .slice ab H.buffer.length cb, .slice sa H.sites.length sc] 35)) (.slice none 0 0) (.slice none 0 0)
    simpa using f1
  have HP : Hid (∀ X, Below W.heap.size W X → X.cell? ⟨w.heap.size, 0, none⟩ = some (.slice ao H.objs.length co)) := fun X hX => (hX.cell (p := ⟨w.heap.size, 0, none⟩) (by show w.heap.size < _; omega)).trans p0
  have HR : Hid (∀ X, Below W.heap.size W X → RdO X ao H.objs) := fun X hX => rdO_later (rdO_later ro BW) hX
  have HFR : Hid (∀ X, Below W.heap.size W X → Two X (w.heap.size + 1) (.slice none 0 0) (.slice none 0 0)) := fun X hX => FR.later hX (by omega)
  have HWs : Hid (W.heap.size = w.heap.size + 2) := hWs
  have HBW : Hid (Below w.heap.size w W) := BW
  have HT0 : Hid _ := ti_start W
  have HCS : Hid (∀ (j : Nat) (h : j < H.objs.length), (H.objs.take (j + 1)).map (·.count) = (H.objs.take j).map (·.count) ++ [H.objs[j].count]) := fun j h => cnt_step H j h
  have HZS : Hid (∀ (j : Nat) (h : j < H.objs.length), (H.objs.take (j + 1)).map (fun _ => (0 : Int)) = (H.objs.take j).map (fun _ => (0 : Int)) ++ [0]) := fun j h => zer_step H j h
  have HE : Hid (∀ j : Nat, j ≤ 8 → j ≤ H.objs.length → (j = 8 ∨ j = H.objs.length) → trialNew H = ⟨(H.objs.take j).map (·.count), (H.objs.take j).map (fun _ => 0)⟩) := by
    intro j h8 hl hj
    unfold trialNew
    rcases hj with rfl | rfl
    · rfl
    · rw [List.take_of_length_le h8, List.take_of_length_le (Nat.le_refl _)]
  obtain ⟨n, hnn⟩ : ∃ n, H.objs.length = n := ⟨_, rfl⟩
  have Hn : Hid (H.objs.length = n) := hnn
  rw [hnn] at hn hW HP HE hcap ⊢
  obtain ⟨gt, hgt⟩ : ∃ gt, W.heap.size = gt := ⟨_, rfl⟩
  have Hgt : Hid (W.heap.size = gt) := hgt
  rw [hgt] at HP HR HFR HT0
  have HR8 : Hid (∀ X, Below gt W X → RdO X ao H.objs) := HR
  obtain ⟨m, hm, hm8⟩ : ∃ m : Nat, m = min n 8 ∧ m ≤ 8 := ⟨_, rfl, Nat.min_le_right _ _⟩
  have hmn : m ≤ n := by omega
  have HM : Hid (m = 8 ∨ m = n) := by show _ ∨ _; omega
  have hmc : min n 8 ≤ co := by omega
  clear ro p0 FR BW hnn
  go_enter Try.func12, Try.ntmps12
  go_wp2
  rw [← hW, ← hWs, hgt]
  clear hW hWs hgt
  go_loopw [14] (fun i wr => ∃ (j : Nat) (xa : Option Addr) (xc : Nat) (ya : Option Addr) (yc : Nat), i = .int .i64 (j : Int) ∧ j ≤ m ∧ Hid (TI W wr gt (.slice xa j xc) (.slice ya j yc) ((H.objs.take j).map (·.count)) ((H.objs.take j).map (fun _ => 0)))) (fun i _ => m - (intOf i).toNat)
  case atStart => exact ⟨0, none, 0, none, 0, rfl, by omega, HT0⟩
  case round =>
    obtain ⟨j, xa, xc, ya, yc, rfl, hjm, HI⟩ := hrel
    by_cases hlt : j < m
    · have hj2 : j < H.objs.length := by have := Hn.out; omega
      obtain ⟨g, off, f, fc, rfl, hg, hc, -⟩ := HR.out wr HI.out.bel j hj2
      have HXS : Hid (_ = _) := HCS.out j hj2
      have HYS : Hid (_ = _) := HZS.out j hj2
      obtain ⟨o, ho⟩ : ∃ o, H.objs[j] = o := ⟨_, rfl⟩
      rw [ho] at hc HXS
      obtain ⟨c0, c1, c2, c3, c4, c5, c6, c7⟩ := hc
      have hll : ((H.objs.take j).map (fun o : ObjD => o.count)).length = j := by rw [List.length_map, List.length_take]; omega
      have hly0 : ((H.objs.take j).map (fun _ : ObjD => (0 : Int))).length = j := by rw [List.length_map, List.length_take]; omega
      obtain ⟨XS, hXS⟩ : ∃ XS, (H.objs.take j).map (fun o : ObjD => o.count) = XS := ⟨_, rfl⟩
      obtain ⟨YS, hYS⟩ : ∃ YS, (H.objs.take j).map (fun _ : ObjD => (0 : Int)) = YS := ⟨_, rfl⟩
      rw [hXS] at HI HXS hll
      rw [hYS] at HI HYS hly0
      have HLX : Hid (XS.length = j) := hll
      have HLY : Hid (YS.length = j) := hly0
      clear ho hXS hYS hll hly0
      generalize o.live = b0 at *
      generalize o.gen = z1 at *
      generalize o.site = z2 at *
      generalize o.holds = z3 at *
      generalize o.roots = z4 at *
      generalize o.count = z at *
      generalize o.field.length = fl at *
      generalize o.purple = b7 at *
      have t0 : wr.cell? ⟨gt, 0, none⟩ = some (.slice xa j xc) := HI.out.t.cell 0
      have hgl := HI.out.t.lt
      have hgn : ¬ gt = wr.heap.size := by omega
      have HY : Hid (∀ X, Below wr.heap.size wr X → TI W X gt (.slice xa j xc) (.slice ya j yc) XS YS) := fun X hX => ⟨HI.out.bel.trans (hX.mono (by omega)), ownI_later HI.out.x hX, ownI_later HI.out.y hX, HI.out.dif, HI.out.t.same (hX.block gt hgl)⟩
      obtain ⟨U, hU⟩ : ∃ U, U = wr.alloc (.cells #[.bool b0, .int .i64 z1, .int .i64 z2, .int .i64 z3, .int .i64 z4, .int .i64 z, .slice f fl fc, .bool b7] 61) := ⟨_, rfl⟩
      obtain ⟨V, hV⟩ : ∃ V, V = U.alloc (.cells #[.int .i64 z] 3) := ⟨_, rfl⟩
      have bU : Below wr.heap.size wr U := by rw [hU]; exact (Below.refl _ _).alloc (Nat.le_refl _) _
      have sU : U.heap.size = wr.heap.size + 1 := by rw [hU]; simp
      have HIV : Hid _ := HY.out V (by rw [hV]; exact bU.alloc bU.size _)
      have hVc : V.cell? ⟨U.heap.size, 0, none⟩ = some (.int .i64 z) := by rw [hV, World.cell?_alloc_mark]; rfl
      have HVs : Hid (gt + 1 ≤ V.heap.size) := by have := HIV.out.t.lt; exact this
      have HU : Hid (U = _) := hU
      have HsU : Hid (U.heap.size = wr.heap.size + 1) := sU
      clear hU bU sU HI
      go_wp2_with (at_builtin; rw [← HU.out]; try rw [← HsU.out]; rw [← hV]; clear hV HU HsU; refine wpList_appendL rfl _ _ rfl (gt + 1) _ _ rfl HIV.out.x ⟨U.heap.size, 0, none⟩ z rfl hVc ?hlen HVs.out ?_)
      case hlen => rw [HLX.out]; omega
      intro v4 X4 O4 s4 H4 A4 B4
      obtain ⟨xa2, xc2, rfl, -⟩ := rdI_own O4
      have hlx : (XS ++ [z]).length = j + 1 := by rw [List.length_append, HLX.out]; rfl
      rw [hlx] at O4 A4 ⊢
      have T4 : Two X4 gt (.slice xa j xc) (.slice ya j yc) := HIV.out.t.same (H4.out gt HIV.out.t.lt (fun e => by have := (ownI_lt HIV.out.x gt e).1; omega))
      have y4 : ownI X4 (gt + 1) (.slice ya j yc) _ := ownI_same HIV.out.y (fun q hq => H4.out q (ownI_lt HIV.out.y q hq).2 (fun e => HIV.out.dif q e hq))
      have HI2 : Hid _ := ti_x HIV.out (B4.out gt W HIV.out.bel (by omega)) T4 y4 O4 (by
        rcases A4.out with e | e
        · exact .inl e
        · exact .inr ⟨_, e, Nat.le_refl _⟩)
      have d4 : X4.cell? ⟨gt, 0, none⟩ = some (.slice xa j xc) := T4.cell 0
      have f4 := T4.frozen 0
      obtain ⟨Y, hY⟩ : ∃ Y, Y = X4.setCell ⟨gt, 0, none⟩ (.slice xa2 (j + 1) xc2) := ⟨_, rfl⟩
      rw [← hY] at HI2
      have y1 : Y.cell? ⟨gt, 1, none⟩ = some (.slice ya j yc) := HI2.out.t.cell 1
      have hgY := HI2.out.t.lt
      have hgY2 : ¬ gt = Y.heap.size := by omega
      have HY2 : Hid (∀ X, Below Y.heap.size Y X → TI W X gt (.slice xa2 (j + 1) xc2) (.slice ya j yc) (XS ++ [z]) YS) := fun X hX => ⟨HI2.out.bel.trans (hX.mono (by omega)), ownI_later HI2.out.x hX, ownI_later HI2.out.y hX, HI2.out.dif, HI2.out.t.same (hX.block gt hgY)⟩
      obtain ⟨V5, hV5⟩ : ∃ V, V = Y.alloc (.cells #[.int .i64 0] 3) := ⟨_, rfl⟩
      have HIV5 : Hid _ := HY2.out V5 (by rw [hV5]; exact (Below.refl _ _).alloc (Nat.le_refl _) _)
      have hVc5 : V5.cell? ⟨Y.heap.size, 0, none⟩ = some (.int .i64 0) := by rw [hV5, World.cell?_alloc_mark]; rfl
      have HVs5 : Hid (gt + 1 ≤ V5.heap.size) := by have := HIV5.out.t.lt; exact this
      clear T4 y4 O4 H4 A4 B4 hVc c0 c1 c2 c3 c4 c5 c6 c7 t0 HY HY2
      rw [hY] at y1
      have hYs : (X4.setCell ⟨gt, 0, none⟩ (.slice xa2 (j + 1) xc2)).heap.size = Y.heap.size := by rw [hY]
      have HhY : Hid (Y = _) := hY
      clear hY
      go_wp2_with (at_builtin; rw [← HhY.out]; rw [← hV5]; clear hV5; refine wpList_appendL rfl _ _ rfl (gt + 1) _ _ rfl HIV5.out.y ⟨Y.heap.size, 0, none⟩ 0 rfl hVc5 ?hlen2 HVs5.out ?_)
      case hlen2 => rw [HLY.out]; omega
      intro v6 X6 O6 s6 H6 A6 B6
      obtain ⟨ya4, yc4, rfl, -⟩ := rdI_own O6
      have hly : (YS ++ [0]).length = j + 1 := by rw [List.length_append, HLY.out]; rfl
      rw [hly] at O6 A6 ⊢
      have T6 : Two X6 gt (.slice xa2 (j + 1) xc2) (.slice ya j yc) := HIV5.out.t.same (H6.out gt HIV5.out.t.lt (fun e => by have := (ownI_lt HIV5.out.y gt e).1; omega))
      have x6 : ownI X6 (gt + 1) (.slice xa2 (j + 1) xc2) _ := ownI_same HIV5.out.x (fun q hq => H6.out q (ownI_lt HIV5.out.x q hq).2 (fun e => HIV5.out.dif q hq e))
      have HF : Hid _ := ti_y HIV5.out (B6.out gt W HIV5.out.bel (by omega)) T6 x6 O6 (by
        rcases A6.out with e | e
        · exact .inl e
        · exact .inr ⟨_, e, Nat.le_refl _⟩)
      have e4 : X6.cell? ⟨gt, 1, none⟩ = some (.slice ya j yc) := T6.cell 1
      have g4 := T6.frozen 1
      rw [← HXS.out, ← HYS.out] at HF
      clear T6 x6 O6 H6 A6 B6 y1 d4 f4
      go_wp2
      go_roundw
      case rel => exact ⟨j + 1, xa2, xc2, ya4, yc4, by go_num, by omega, HF⟩
      case measure => simp [intOf]; omega
    · have e8 : m ≤ j := by omega
      have HEE : Hid (_ = _) := HE.out j (by omega) (by omega) (by have := HM.out; omega)
      have TW := HI.out.t
      have RW := HFR.out _ HI.out.bel
      have x0 : wr.cell? ⟨gt, 0, none⟩ = some (.slice xa j xc) := TW.cell 0
      have x1 : wr.cell? ⟨gt, 1, none⟩ = some (.slice ya j yc) := TW.cell 1
      have r0 : wr.cell? ⟨w.heap.size + 1, 0, none⟩ = some (.slice none 0 0) := RW.cell 0
      have r1 : wr.cell? ⟨w.heap.size + 1, 1, none⟩ = some (.slice none 0 0) := RW.cell 1
      have z0 := RW.frozen 0
      have z1 := RW.frozen 1
      have HTM : Hid (TM (setTwo wr (w.heap.size + 1) (.slice xa j xc) (.slice ya j yc)) w.heap.size ⟨xa, j, xc, ya, j, yc⟩ (trialNew H)) := by
        have oth : ∀ q, gt + 1 ≤ q → (setTwo wr (w.heap.size + 1) (.slice xa j xc) (.slice ya j yc)).heap[q]? = wr.heap[q]? := fun q hq => setTwo_other _ _ _ _ q (by have := HWs.out; have := Hgt.out; omega)
        rw [HEE.out]
        have hle : w.heap.size ≤ gt + 1 := by have := HWs.out; have := Hgt.out; omega
        exact ⟨ownI_mono (ownI_same HI.out.x (fun q hq => oth q (ownI_lt HI.out.x q hq).1)) hle, ownI_mono (ownI_same HI.out.y (fun q hq => oth q (ownI_lt HI.out.y q hq).1)) hle, HI.out.dif⟩
      have HBL : Hid (Below w.heap.size w (setTwo wr (w.heap.size + 1) (.slice xa j xc) (.slice ya j yc))) := by
        unfold setTwo
        exact ((HBW.out.trans (HI.out.bel.mono (by have := HWs.out; have := Hgt.out; omega))).setCell (by simp) _).setCell (by simp) _
      clear TW RW HI HEE
      go_wp2
      exact bodyPost_ret (v := .agg #[.slice xa j xc, .slice ya j yc]) (by simp [results, Try.results12, go_sem, *]) rfl ⟨⟨xa, j, xc, ya, j, yc⟩, rfl, HTM.out, HBL.out⟩

end Go.Proofs.Ytjhceoejblmihaa
