/- What spec.Gain makes. -/
import Derived.Test.YtohhabbhdpohcaaGainWalks
namespace Go.Proofs.Ytohhabbhdpohcaa
open Go.RowKit
set_option linter.unusedVariables false
set_option maxRecDepth 100000

set_option maxHeartbeats 2000000 in
theorem sGain_calls (v : Value) (H : HeapD) (id : Int) (w : World) (h : RdH w v H) (hs : SmallH H) (hid : in64 id) :
    Calls Try.prog 23 #[v, .int .i64 id] w fun e w' => ∃ s : HSh, e = .returned s.v ∧ HM w' w.heap.size s (gainD H id) ∧ Below w.heap.size w w' := by
  have HR : Hid (∀ X, Below w.heap.size w X → RdH X v H) := fun X hX => rdH_later h hX
  obtain ⟨ao, co, aw, cw, ab, cb, sa, sc, rfl, ro, -⟩ := h
  have HRO : Hid (RdO w ao H.objs) := ro
  obtain ⟨W, hW⟩ : ∃ W, W = (w.alloc (.cells #[.slice ao H.objs.length co, .slice aw H.weaks.length cw, .slice ab H.buffer.length cb, .slice sa H.sites.length sc] 29)).alloc (.cells #[.slice none 0 0, .slice none 0 0, .slice none 0 0, .slice none 0 0] 29) := ⟨_, rfl⟩
  have BW : Below w.heap.size w W := by rw [hW]; exact ((Below.refl _ _).alloc (Nat.le_refl _) _).alloc (by simp) _
  have hWs : W.heap.size = w.heap.size + 2 := by rw [hW]; simp
  have FP : Four W w.heap.size (.slice ao H.objs.length co) (.slice aw H.weaks.length cw) (.slice ab H.buffer.length cb) (.slice sa H.sites.length sc) := by
    have f1 := Four.new w (.slice ao H.objs.length co) (.slice aw H.weaks.length cw) (.slice ab H.buffer.length cb) (.slice sa H.sites.length sc)
    have hb2 : Below (w.heap.size + 1) (w.alloc (.cells #[.slice ao H.objs.length co, .slice aw H.weaks.length cw, .slice ab H.buffer.length cb, .slice sa H.sites.length sc] 29)) W := by rw [hW]; exact (Below.refl _ _).alloc (by simp) _
    exact (hb2.block w.heap.size (by omega)).trans f1
  have FR : Four W (w.heap.size + 1) (.slice none 0 0) (.slice none 0 0) (.slice none 0 0) (.slice none 0 0) := by
    rw [hW]
    have f1 := Four.new (w.alloc (.cells #[.slice ao H.objs.length co, .slice aw H.weaks.length cw, .slice ab H.buffer.length cb, .slice sa H.sites.length sc] 29)) (.slice none 0 0) (.slice none 0 0) (.slice none 0 0) (.slice none 0 0)
    simpa using f1
  have HFR : Hid (Four W (w.heap.size + 1) (.slice none 0 0) (.slice none 0 0) (.slice none 0 0) (.slice none 0 0)) := FR
  have HFP : Hid (Four W w.heap.size (.slice ao H.objs.length co) (.slice aw H.weaks.length cw) (.slice ab H.buffer.length cb) (.slice sa H.sites.length sc)) := FP
  have CC : Hid (∀ _ : Unit, _) := fun (_ : Unit) => sCopy_calls _ H W (HR.out W BW) hs
  have HBW : Hid (Below w.heap.size w W) := BW
  have l0 := hs.objs
  clear FR FP BW hs ro
  go_enter Try.func23, Try.ntmps23
  go_wp2_with fail
  rw [← hW]
  clear hW
  refine (CC.out ()).mono ?_
  rintro e w1 ⟨⟨oa, oc2, os, wa, wn, wc, ba, bn, bc, sa2, sn, sc2⟩, rfl, M1, b1⟩
  have HM1 : Hid (HM w1 W.heap.size ⟨oa, oc2, os, wa, wn, wc, ba, bn, bc, sa2, sn, sc2⟩ H) := M1
  have HB1 : Hid (Below W.heap.size W w1) := b1
  have HSO : Hid (os.length = H.objs.length) := M1.lo
  have hs1 := b1.size
  clear CC M1 b1
  obtain ⟨V, hV⟩ : ∃ V, V = w1.alloc (.cells #[.slice oa os.length oc2, .slice wa wn wc, .slice ba bn bc, .slice sa2 sn sc2] 29) := ⟨_, rfl⟩
  have BV : Below w1.heap.size w1 V := by rw [hV]; exact (Below.refl _ _).alloc (Nat.le_refl _) _
  have hVs : V.heap.size = w1.heap.size + 1 := by rw [hV]; simp
  have HXV : Hid (Four V w1.heap.size (.slice oa os.length oc2) (.slice wa wn wc) (.slice ba bn bc) (.slice sa2 sn sc2)) := by rw [hV]; exact Four.new w1 _ _ _ _
  have HMV : Hid (HM V W.heap.size ⟨oa, oc2, os, wa, wn, wc, ba, bn, bc, sa2, sn, sc2⟩ H) := hm_later HM1.out BV
  have HBV : Hid (Below W.heap.size W V) := HB1.out.trans (BV.mono HB1.out.size)
  have HFV : Hid (Four V (w.heap.size + 1) (.slice none 0 0) (.slice none 0 0) (.slice none 0 0) (.slice none 0 0)) := (HBV.out.block (w.heap.size + 1) (by omega)).trans HFR.out
  have HPV : Hid (Four V w.heap.size (.slice ao H.objs.length co) (.slice aw H.weaks.length cw) (.slice ab H.buffer.length cb) (.slice sa H.sites.length sc)) := (HBV.out.block w.heap.size (by omega)).trans HFP.out
  have HEND : Hid (∀ X, Below V.heap.size V X → Below w.heap.size w X) := fun X hX => HBW.out.trans ((HBV.out.trans (hX.mono HBV.out.size)).mono HBW.out.size)
  have CS : Hid (∀ _ : Unit, _) := fun (_ : Unit) => sSlotOf_calls _ H id V (HR.out V (HEND.out V (Below.refl _ _))) (by omega) hid.1 hid.2
  have hv : HSh.v ⟨oa, oc2, os, wa, wn, wc, ba, bn, bc, sa2, sn, sc2⟩ = .agg #[.slice oa os.length oc2, .slice wa wn wc, .slice ba bn bc, .slice sa2 sn sc2] := rfl
  have p0 := ((HBV.out.block w.heap.size (by omega)).symm.trans HPV.out : Four W w.heap.size _ _ _ _)
  have P1 : Four w1 w.heap.size (.slice ao H.objs.length co) (.slice aw H.weaks.length cw) (.slice ab H.buffer.length cb) (.slice sa H.sites.length sc) := (HB1.out.block w.heap.size (by omega)).trans HFP.out
  have c0 := P1.cell 0
  have c1 := P1.cell 1
  have c2 := P1.cell 2
  have c3 := P1.cell 3
  simp only [List.getElem?_toArray, List.getElem?_cons_zero, List.getElem?_cons_succ] at c0 c1 c2 c3
  have hlp : w.heap.size < w1.heap.size := by omega
  have hnp : ¬ w.heap.size = w1.heap.size := by omega
  rw [hv]
  clear hv p0 P1 BV HFR HBV HBW HFP HB1 HR
  go_wp2_with fail
  rw [← hV]
  clear hV c0 c1 c2 c3
  refine (CS.out ()).mono ?_
  rintro e X ⟨rfl, hX⟩
  have XX := HXV.out.later hX
  have RX := HFV.out.later hX
  have PX := HPV.out.later hX
  have q0 := XX.cell 0
  have q1 := XX.cell 1
  have q2 := XX.cell 2
  have q3 := XX.cell 3
  have r0 := RX.cell 0
  have r1 := RX.cell 1
  have r2 := RX.cell 2
  have r3 := RX.cell 3
  have z0 := RX.frozen 0
  have z1 := RX.frozen 1
  have z2 := RX.frozen 2
  have z3 := RX.frozen 3
  have p0 := PX.cell 0
  simp only [List.getElem?_toArray, List.getElem?_cons_zero, List.getElem?_cons_succ] at q0 q1 q2 q3 r0 r1 r2 r3 p0
  have HEX : Hid (Below w.heap.size w X) := HEND.out X hX
  have HMX : Hid (HM X W.heap.size ⟨oa, oc2, os, wa, wn, wc, ba, bn, bc, sa2, sn, sc2⟩ H) := hm_later HMV.out hX
  have hVX := hX.size
  clear XX RX PX HEND HMV CS hX
  by_cases hk : 0 ≤ slotZ H id
  · obtain ⟨k, hkl, ek, hk8, hlv, -⟩ := slotZ_yes H id hk
    have HG : Hid (gainD H id = incD H k 1) := by show _ = _; unfold gainD; rw [if_pos hk, ek]; rfl
    obtain ⟨go, hgo, hgB, hgl⟩ := hm_own HMX.out k hkl
    simp only at hgo
    subst hgo
    obtain ⟨hk2, hob, hfz⟩ := hm_obj HMX.out k hkl go rfl
    have hgq : go ≠ w1.heap.size := fun e => by have := (HM1.out.og _ rfl).2; simp only at this; omega
    obtain ⟨gs, off, f, fc, rfl, hgs, hcs, -⟩ := rdO_later HRO.out HEX.out k hkl
    have hgs2 : gs < w.heap.size := by obtain ⟨g3, off3, _, _, e3, h3, _⟩ := HRO.out k hkl; simp only [Option.some.injEq, Addr.mk.injEq] at e3; rw [e3.1]; exact h3
    rw [ek]
    have s5 := hcs.c5
    have k5 := hob.c5
    have z5 := hfz 5 (by omega)
    have HN : Hid (HM (X.setCell ⟨go, k * 8 + 5, none⟩ (.int .i64 (wrap64 (H.objs[k].count + 1)))) W.heap.size ⟨some ⟨go, 0, none⟩, oc2, os, wa, wn, wc, ba, bn, bc, sa2, sn, sc2⟩ (gainD H id)) := by
      rw [HG.out, incD_at hkl]
      exact hm_count HMX.out k hkl go rfl _
    generalize H.objs[k].count = c at s5 k5 HN
    obtain ⟨M, hM⟩ : ∃ M, wrap64 (c + 1) = M := ⟨_, rfl⟩
    rw [hM] at HN
    have hM2 : IntKind.i64.wrap (c + 1) = M := by rw [← hM, IntKind.wrap_i64]; simp only [wrap64]
    clear hob hfz hlv HG hk ek HMX hcs HRO HM1
    have hg1 : ¬ go = w.heap.size + 1 := by omega
    have hg2 : ¬ w.heap.size + 1 = go := by omega
    have hg3 : ¬ go = w1.heap.size := hgq
    have hg4 : ¬ w1.heap.size = go := fun e => hgq e.symm
    have hg5 : go ≠ w.heap.size := by omega
    have hg6 : go ≠ gs := by omega
    have hi0 : (0 : Int) ≤ (k : Int) := by omega
    have hk3 : k < os.length := hk2
    have hi1 : (k : Int) < (os.length : Int) := by omega
    have hi2 : (k : Int) < (H.objs.length : Int) := by omega
    go_wp2
    go_region_held (fun Y => Y.cell? ⟨w1.heap.size, 0, none⟩ = some (.slice (some ⟨go, 0, none⟩) os.length oc2) ∧ Y.cell? ⟨w.heap.size, 0, none⟩ = some (.slice (some ⟨gs, off, none⟩) H.objs.length co) ∧ Y.cell? ⟨gs, off + k * 8 + 5, none⟩ = some (.int .i64 c))
      (first | exact ⟨q0, p0, s5⟩ | exact ⟨(keep_far _ _ (by exact hgq) 0).trans q0, (keep_far _ _ (by exact hg5) 0).trans p0, (keep_far _ _ (by exact hg6) _).trans s5⟩)
      (fail)
    go_wp2
    refine bodyPost_ret (v := .agg #[.slice (some ⟨go, 0, none⟩) os.length oc2, .slice wa wn wc, .slice ba bn bc, .slice sa2 sn sc2]) (by simp [results, Try.results23, go_sem, *]) rfl ⟨⟨some ⟨go, 0, none⟩, oc2, os, wa, wn, wc, ba, bn, bc, sa2, sn, sc2⟩, rfl, ?_, ?_⟩
    · refine hm_mono (hm_later (hm_keepB HN.out (w' := setFour (X.setCell ⟨go, k * 8 + 5, none⟩ (.int .i64 M)) (w.heap.size + 1) _ _ _ _) ?_) (Below.refl _ _).drew) (by omega)
      refine (((keepB_set _ _ ⟨w.heap.size + 1, 0, none⟩ _ (by simp only; omega)).trans (keepB_set _ _ ⟨w.heap.size + 1, 1, none⟩ _ (by simp only; omega))).trans (keepB_set _ _ ⟨w.heap.size + 1, 2, none⟩ _ (by simp only; omega))).trans (keepB_set _ _ ⟨w.heap.size + 1, 3, none⟩ _ (by simp only; omega))
    · refine Below.drew ?_
      iterate 4 refine Below.setCell ?_ (by simp only; omega) _
      exact HEX.out.setCell (by simp only; omega) _
  · have HG : Hid (gainD H id = H) := by show _ = _; unfold gainD; rw [if_neg hk]
    generalize slotZ H id = z at hk
    have hz : ¬ z ≥ 0 := by omega
    go_wp2
    refine bodyPost_ret (v := .agg #[.slice oa os.length oc2, .slice wa wn wc, .slice ba bn bc, .slice sa2 sn sc2]) (by simp [results, Try.results23, go_sem, *]) rfl ⟨⟨oa, oc2, os, wa, wn, wc, ba, bn, bc, sa2, sn, sc2⟩, rfl, ?_, ?_⟩
    · rw [HG.out]
      refine hm_mono (hm_keepB HMX.out ?_) (by omega)
      refine (((keepB_set _ _ ⟨w.heap.size + 1, 0, none⟩ _ (by simp only; omega)).trans (keepB_set _ _ ⟨w.heap.size + 1, 1, none⟩ _ (by simp only; omega))).trans (keepB_set _ _ ⟨w.heap.size + 1, 2, none⟩ _ (by simp only; omega))).trans (keepB_set _ _ ⟨w.heap.size + 1, 3, none⟩ _ (by simp only; omega))
    · iterate 4 refine Below.setCell ?_ (by simp only; omega) _
      exact HEX.out

end Go.Proofs.Ytohhabbhdpohcaa
