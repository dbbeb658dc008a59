/- What spec.Lose makes. -/
import Derived.Test.YtohhabbhdpohcaaLoseParts
import Derived.Test.YtohhabbhdpohcaaILoseWalks
import Derived.Deep.RegionHeld
namespace Go.Proofs.Ytohhabbhdpohcaa
open Go.RowKit
set_option linter.unusedVariables false
set_option maxRecDepth 100000

theorem opMove {t i : Tmp} {ty : TypeId} {pos : String} {af : Array Edge} {a : Act} {X : World} {K : Act → World → Prop} {Q : Exit → Act → World → Prop} {v : Value} (h1 : a.eval (.tmp i) = v) (hK : K (a.put (some t) v) X) :
    Oper.wp Try.prog ⟨some t, .move (.tmp i), ty, pos, af, none⟩ a X K Q := by
  have h := ev_tmp h1
  go_simp; exact hK
theorem opIndexO {t i j : Tmp} {ty : TypeId} {pos : String} {af : Array Edge} {a : Act} {X : World} {K : Act → World → Prop} {Q : Exit → Act → World → Prop} {g n c k : Nat} (h1 : a.eval (.tmp i) = .slice (some ⟨g, 0, none⟩) n c) (h2 : a.eval (.tmp j) = .int .i64 (k : Int)) (hk : k < n) (hK : K (a.put (some t) (.pointer (some ⟨g, k * 8, none⟩))) X) :
    Oper.wp Try.prog ⟨some t, .indexAddr 24 (.tmp i) (.tmp j), ty, pos, af, none⟩ a X K Q := by
  have e1 := ev_tmp h1
  have e2 := ev_tmp h2
  have k1 : (0 : Int) ≤ (k : Int) := by omega
  have k2 : (k : Int) < (n : Int) := by omega
  go_simp; exact hK
theorem opFieldO5 {t i : Tmp} {ty : TypeId} {pos : String} {af : Array Edge} {a : Act} {X : World} {K : Act → World → Prop} {Q : Exit → Act → World → Prop} {g p : Nat} (h1 : a.eval (.tmp i) = .pointer (some ⟨g, p, none⟩)) (hK : K (a.put (some t) (.pointer (some ⟨g, p + 5, none⟩))) X) :
    Oper.wp Try.prog ⟨some t, .fieldAddr 39 (.tmp i) 5, ty, pos, af, none⟩ a X K Q := by
  have h := ev_tmp h1
  go_simp; exact hK
theorem opLoadInt {t i : Tmp} {ty : TypeId} {pos : String} {af : Array Edge} {a : Act} {X : World} {K : Act → World → Prop} {Q : Exit → Act → World → Prop} {g p : Nat} {v : Value} (h1 : a.eval (.tmp i) = .pointer (some ⟨g, p, none⟩)) (hc : X.cell? ⟨g, p, none⟩ = some v) (hK : K (a.put (some t) v) X) :
    Oper.wp Try.prog ⟨some t, .load 3 (.tmp i), ty, pos, af, none⟩ a X K Q := by
  have h := ev_tmp h1
  go_simp; exact hK
theorem opSub1 {t i : Tmp} {ty : TypeId} {pos : String} {af : Array Edge} {a : Act} {X : World} {K : Act → World → Prop} {Q : Exit → Act → World → Prop} {z : Int} (h1 : a.eval (.tmp i) = .int .i64 z) (hK : K (a.put (some t) (.int .i64 (wrap64 (z - 1)))) X) :
    Oper.wp Try.prog ⟨some t, .binOp .sub 3 (.tmp i) (.const (.int .i64 1)) 3, ty, pos, af, none⟩ a X K Q := by
  have h := ev_tmp h1
  have e : IntKind.i64.wrap (z - 1) = wrap64 (z - 1) := by rw [IntKind.wrap_i64]; simp only [wrap64]
  go_simp; exact hK
theorem opStoreInt {i j : Tmp} {ty : TypeId} {pos : String} {af : Array Edge} {a : Act} {X : World} {K : Act → World → Prop} {Q : Exit → Act → World → Prop} {g p : Nat} {u : Value} {z : Int} (h1 : a.eval (.tmp i) = .pointer (some ⟨g, p, none⟩)) (h2 : a.eval (.tmp j) = .int .i64 z) (hc : X.cell? ⟨g, p, none⟩ = some u) (hf : X.frozen? ⟨g, p, none⟩ = false) (hK : K a (X.setCell ⟨g, p, none⟩ (.int .i64 z))) :
    Oper.wp Try.prog ⟨none, .store 3 (.tmp i) (.tmp j), ty, pos, af, none⟩ a X K Q := by
  have e1 := ev_tmp h1
  have e2 := ev_tmp h2
  go_simp; exact hK

/-- What each operation of 'x.Objs[k].Count = x.Objs[k].Count - 1' yields. -/
def RK (gx go n c k : Nat) (z : Int) : Nat → World → Value → Prop
  | 0, X, v => v = .pointer (some ⟨gx, 0, none⟩)
  | 1, X, v => v = .slice (some ⟨go, 0, none⟩) n c
  | 2, X, v => v = .int .i64 (k : Int)
  | 3, X, v => v = .pointer (some ⟨gx, 0, none⟩)
  | 4, X, v => v = .slice (some ⟨go, 0, none⟩) n c
  | 5, X, v => v = .int .i64 (k : Int)
  | 6, X, v => v = .pointer (some ⟨go, k * 8, none⟩)
  | 7, X, v => v = .pointer (some ⟨go, k * 8 + 5, none⟩)
  | 8, X, v => v = .int .i64 z
  | 9, X, v => v = .int .i64 (wrap64 (z - 1))
  | 10, X, v => v = .pointer (some ⟨go, k * 8, none⟩)
  | 11, X, v => v = .pointer (some ⟨go, k * 8 + 5, none⟩)
  | _, _, _ => True
theorem rk_mono {gx go n c k : Nat} {z : Int} (i : Nat) (X Y : World) (v : Value) (h : RK gx go n c k z i X v) (hb : Below X.heap.size X Y) : RK gx go n c k z i Y v := by
  match i, h with
  | 0, h => exact h
  | 1, h => exact h
  | 2, h => exact h
  | 3, h => exact h
  | 4, h => exact h
  | 5, h => exact h
  | 6, h => exact h
  | 7, h => exact h
  | 8, h => exact h
  | 9, h => exact h
  | 10, h => exact h
  | 11, h => exact h
  | n + 12, _ => exact trivial

/-- What holds from round to round. -/
def SL (W : World) (B gx : Nat) (R : HeapD × List Int) (vf vq : Value) (X : World) : Prop := ∃ s H todo fr, LS W X B gx s H vq vf todo fr ∧ ToR R H todo fr

set_option maxHeartbeats 8000000 in
theorem sLose_calls (v : Value) (H : HeapD) (ia : Option Addr) (ic : Nat) (ids : List Int) (w : World) (h : RdH w v H) (hs : SmallH H) (hw : ∀ z ∈ H.objs, ∀ x ∈ z.field, in64 x) (hri : RdI w ia ids) (hil : ids.length ≤ 1048576) (hiw : ∀ x ∈ ids, in64 x) :
    Calls Try.prog 16 #[v, .slice ia ids.length ic] w fun e w' => ∃ (s : HSh) (vf : Value), e = .returned (.tuple #[s.v, vf]) ∧ HM w' w.heap.size s (loseR H ids).1 ∧ ownI w' w.heap.size vf (loseR H ids).2 ∧ (∀ g, vf.ownBlock = some g → ¬ HasB s g) ∧ Below w.heap.size w w' := by
  have HR : Hid (∀ X, Below w.heap.size w X → RdH X v H) := fun X hX => rdH_later h hX
  have HRI : Hid (∀ X, Below w.heap.size w X → SrcC X ia ids.length 1 (ids.map intV)) := fun X hX => (srcI hri).later hX
  have HTR : Hid (ToR (loseR H ids) H ids []) := toR_begin hs hw hil hiw
  obtain ⟨ao, co, aw, cw, ab, cb, sa, sc, rfl, -⟩ := h
  obtain ⟨W, hW⟩ : ∃ W, W = (w.alloc (.cells #[.slice ao H.objs.length co, .slice aw H.weaks.length cw, .slice ab H.buffer.length cb, .slice sa H.sites.length sc] 29)).alloc (.cells #[.slice none 0 0, .slice none 0 0, .slice none 0 0, .slice none 0 0] 29) := ⟨_, rfl⟩
  have BW : Below w.heap.size w W := by rw [hW]; exact ((Below.refl _ _).alloc (Nat.le_refl _) _).alloc (by simp) _
  have hWs : W.heap.size = w.heap.size + 2 := by rw [hW]; simp
  have FR : Four W (w.heap.size + 1) (.slice none 0 0) (.slice none 0 0) (.slice none 0 0) (.slice none 0 0) := by
    rw [hW]
    have f1 := Four.new (w.alloc (.cells #[.slice ao H.objs.length co, .slice aw H.weaks.length cw, .slice ab H.buffer.length cb, .slice sa H.sites.length sc] 29)) (.slice none 0 0) (.slice none 0 0) (.slice none 0 0) (.slice none 0 0)
    simpa using f1
  have HFR : Hid (Four W (w.heap.size + 1) (.slice none 0 0) (.slice none 0 0) (.slice none 0 0) (.slice none 0 0)) := FR
  have HBW : Hid (Below w.heap.size w W) := BW
  have HWs : Hid (W.heap.size = w.heap.size + 2) := hWs
  have CC : Hid (∀ _ : Unit, _) := fun (_ : Unit) => sCopy_calls _ H W (HR.out W BW) hs
  generalize loseR H ids = R at HTR ⊢
  clear FR BW HR hs hw hri hiw
  go_enter Try.func16, Try.ntmps16
  go_wp2_with fail
  rw [← hW]
  clear hW
  refine (CC.out ()).mono ?_
  rintro e w1 ⟨s, rfl, M1, b1⟩
  have HM1 : Hid (HM w1 W.heap.size s H) := M1
  have HB1 : Hid (Below W.heap.size W w1) := b1
  have hs1 := b1.size
  clear CC M1 b1 hWs
  obtain ⟨V, hV⟩ : ∃ V, V = w1.alloc (.cells #[.slice s.oa s.os.length s.oc, .slice s.wa s.wn s.wc, .slice s.ba s.bn s.bc, .slice s.sa s.sn s.sc] 29) := ⟨_, rfl⟩
  have BV : Below w1.heap.size w1 V := by rw [hV]; exact (Below.refl _ _).alloc (Nat.le_refl _) _
  have hVs : V.heap.size = w1.heap.size + 1 := by rw [hV]; simp
  have HXV : Hid (Four V w1.heap.size (.slice s.oa s.os.length s.oc) (.slice s.wa s.wn s.wc) (.slice s.ba s.bn s.bc) (.slice s.sa s.sn s.sc)) := by rw [hV]; exact Four.new w1 _ _ _ _
  have HMV : Hid (HM V W.heap.size s H) := hm_later HM1.out BV
  have HBV : Hid (Below W.heap.size W V) := HB1.out.trans (BV.mono HB1.out.size)
  obtain ⟨V2, hV2⟩ : ∃ V2, V2 = V.alloc (.cells #[] 3) := ⟨_, rfl⟩
  have BV2 : Below V.heap.size V V2 := by rw [hV2]; exact (Below.refl _ _).alloc (Nat.le_refl _) _
  have hV2s : V2.heap.size = V.heap.size + 1 := by rw [hV2]; simp
  have HF2 : Hid (ownI V2 W.heap.size (.slice (some ⟨w1.heap.size + 1, 0, none⟩) 0 0) []) := by
    show ownI _ _ _ _
    rw [hV2, ← hVs]
    exact ownI_new V _ HBV.out.size
  obtain ⟨V3, hV3⟩ : ∃ V3, V3 = V2.alloc (.cells #[] 3) := ⟨_, rfl⟩
  have BV3 : Below V2.heap.size V2 V3 := by rw [hV3]; exact (Below.refl _ _).alloc (Nat.le_refl _) _
  have HN3 : Hid (V3.heap[w1.heap.size + 1 + 1]? = some (.cells #[] 3 (0, 0))) := by
    show _ = _
    rw [hV3, ← hVs, ← hV2s]
    exact fresh_at V2 _
  have HB3 : Hid (Below V.heap.size V V3) := BV2.trans (BV3.mono BV2.size)
  have HBV3 : Hid (Below V2.heap.size V2 V3) := BV3
  have hV3s : V3.heap.size = V2.heap.size + 1 := by rw [hV3]; simp
  have HS3 : Hid (V3.heap.size = w1.heap.size + 3) := by show _ = _; omega
  have HS2 : Hid (V2.heap.size = w1.heap.size + 2) := by show _ = _; omega
  have HS1 : Hid (V.heap.size = w1.heap.size + 1) := hVs
  have HSR : Hid (SrcC V3 ia ids.length 1 (ids.map intV)) := HRI.out V3 (HBW.out.trans ((HBV.out.trans (HB3.out.mono HBV.out.size)).mono HBW.out.size))
  rw [show s.v = .agg #[.slice s.oa s.os.length s.oc, .slice s.wa s.wn s.wc, .slice s.ba s.bn s.bc, .slice s.sa s.sn s.sc] from rfl]
  clear BV BV2 BV3 hVs hV2s hV3s HRI
  go_wp2_with (at_builtin; rw [← hV, ← hV2, ← hV3]; clear hV hV2 hV3; refine wpList_append_fresh elI rfl _ _ rfl (w1.heap.size + 1 + 1) V2.heap.size HN3.out (by rw [HS2.out]; exact Nat.le_refl _) ia ids.length ic (ids.map intV) rfl rfl HSR.out (by omega) (by omega) ?_)
  intro vq0 w2 r2 b2 _
  have HLS : Hid (SL W W.heap.size w1.heap.size R (.slice (some ⟨w1.heap.size + 1, 0, none⟩) 0 0) vq0 w2) := by
    have hbl : ∀ g, HasB s g → g < w1.heap.size := fun g hg => (hm_bl HM1.out hg).2
    have b3 : Below V.heap.size V w2 := HB3.out.trans (b2.mono HB3.out.size)
    have b4 : Below V2.heap.size V2 w2 := HBV3.out.trans (b2.mono HBV3.out.size)
    refine ⟨s, H, ids, [], ⟨HBV.out.trans (b3.mono HBV.out.size), Nat.le_refl _, hm_later HMV.out b3, HXV.out.later b3, hs1, fun hh => Nat.lt_irrefl _ (hbl _ hh), ownQ_own (ownI_mono r2 (by have := HS2.out; omega)), ownI_later HF2.out b4, fun g hg hh => ?_, fun g hg hh => ?_, fun g hg hg2 => ?_⟩, HTR.out⟩
    · have h1 := (World.ownsRow.lt r2 g hg).1
      have h2 := hbl g hh
      have := HS2.out
      omega
    · injection hg with hg
      have h2 := hbl g hh
      simp only at hg
      omega
    · injection hg2 with hg2
      simp only at hg2
      have h1 := (World.ownsRow.lt r2 g hg).1
      have := HS2.out
      omega
  clear HXV HMV HBV r2 b2 HF2 HN3 HB3 HBV3 HSR HS1 HS2 HS3 HTR HM1 HB1
  obtain ⟨gx, hgx⟩ : ∃ gx, gx = w1.heap.size := ⟨_, rfl⟩
  rw [← hgx] at HLS ⊢
  obtain ⟨vf0, hvf0⟩ : ∃ v, v = Value.slice (some ⟨gx + 1, 0, none⟩) 0 0 := ⟨_, rfl⟩
  rw [← hvf0] at HLS ⊢
  clear hgx hvf0 hs1
  go_wp2
  go_loopw [7, 8] (fun vf vq wr => SL W W.heap.size gx R vf vq wr) (fun vf vq _ => lenV vq + (9 - lenV vf) * 1048577)
  case atStart => exact HLS.out
  case round =>
    clear HLS
    obtain ⟨s, HH, todo, fr, hls, htr⟩ := hrel
    have HLS : Hid (LS W wr W.heap.size gx s HH _ _ todo fr) := hls
    have HTR : Hid (ToR R HH todo fr) := htr
    obtain ⟨qa, qc, rfl, -⟩ := ownQ_form hls.q
    obtain ⟨fa, fc, rfl, -⟩ := rdI_own' hls.f
    have hfl := htr.ok.frl
    clear hls htr
    cases todo with
    | nil =>
      have XF := HLS.out.x
      have hWs := HWs.out
      have RF : Four wr (w.heap.size + 1) (.slice none 0 0) (.slice none 0 0) (.slice none 0 0) (.slice none 0 0) := (HLS.out.bel.block (w.heap.size + 1) (by omega)).trans HFR.out
      have q0 := XF.cell 0
      have q1 := XF.cell 1
      have q2 := XF.cell 2
      have q3 := XF.cell 3
      have r0 := RF.cell 0
      have r1 := RF.cell 1
      have r2 := RF.cell 2
      have r3 := RF.cell 3
      have z0 := RF.frozen 0
      have z1 := RF.frozen 1
      have z2 := RF.frozen 2
      have z3 := RF.frozen 3
      simp only [List.getElem?_toArray, List.getElem?_cons_zero, List.getElem?_cons_succ] at q0 q1 q2 q3 r0 r1 r2 r3
      have HE : Hid (R = (HH, fr)) := toR_end HTR.out (.inl rfl)
      have HBl : Hid (Below w.heap.size w wr) := HBW.out.trans (HLS.out.bel.mono HBW.out.size)
      clear XF RF
      go_wp2
      refine bodyPost_ret (v := .tuple #[.agg #[.slice s.oa s.os.length s.oc, .slice s.wa s.wn s.wc, .slice s.ba s.bn s.bc, .slice s.sa s.sn s.sc], .slice fa fr.length fc]) (by simp [results, Try.results16, go_sem, *]) rfl ⟨s, .slice fa fr.length fc, rfl, ?_, ?_, HLS.out.sf, ?_⟩
      · rw [HE.out]
        refine hm_mono (hm_keepB HLS.out.m ?_) (by omega)
        refine (((keepB_set _ _ ⟨w.heap.size + 1, 0, none⟩ _ (by simp only; omega)).trans (keepB_set _ _ ⟨w.heap.size + 1, 1, none⟩ _ (by simp only; omega))).trans (keepB_set _ _ ⟨w.heap.size + 1, 2, none⟩ _ (by simp only; omega))).trans (keepB_set _ _ ⟨w.heap.size + 1, 3, none⟩ _ (by simp only; omega))
      · rw [HE.out]
        exact ownI_mono (ownI_same (w' := setFour wr (w.heap.size + 1) _ _ _ _) HLS.out.f (fun g hg => setFour_other _ _ _ _ _ _ g (by have := (ownI_lt HLS.out.f g hg).1; omega))) (by omega)
      · iterate 4 refine Below.setCell ?_ (by simp only; omega) _
        exact HBl.out
    | cons id rest =>
    by_cases hf8 : 8 < fr.length
    · obtain ⟨m, hm⟩ : ∃ m, rest.length = m := ⟨_, rfl⟩
      rw [List.length_cons, hm]
      have hb1 : decide ((0 : Int) < (m : Int) + 1) = true := decide_eq_true (by omega)
      have hb2 : decide ((fr.length : Int) ≤ 8) = false := decide_eq_false (by omega)
      have XF := HLS.out.x
      have hWs := HWs.out
      have RF : Four wr (w.heap.size + 1) (.slice none 0 0) (.slice none 0 0) (.slice none 0 0) (.slice none 0 0) := (HLS.out.bel.block (w.heap.size + 1) (by omega)).trans HFR.out
      have q0 := XF.cell 0
      have q1 := XF.cell 1
      have q2 := XF.cell 2
      have q3 := XF.cell 3
      have r0 := RF.cell 0
      have r1 := RF.cell 1
      have r2 := RF.cell 2
      have r3 := RF.cell 3
      have z0 := RF.frozen 0
      have z1 := RF.frozen 1
      have z2 := RF.frozen 2
      have z3 := RF.frozen 3
      simp only [List.getElem?_toArray, List.getElem?_cons_zero, List.getElem?_cons_succ] at q0 q1 q2 q3 r0 r1 r2 r3
      have HE : Hid (R = (HH, fr)) := toR_end HTR.out (.inr hf8)
      have HBl : Hid (Below w.heap.size w wr) := HBW.out.trans (HLS.out.bel.mono HBW.out.size)
      clear XF RF
      go_wp2
      refine bodyPost_ret (v := .tuple #[.agg #[.slice s.oa s.os.length s.oc, .slice s.wa s.wn s.wc, .slice s.ba s.bn s.bc, .slice s.sa s.sn s.sc], .slice fa fr.length fc]) (by simp [results, Try.results16, go_sem, *]) rfl ⟨s, .slice fa fr.length fc, rfl, ?_, ?_, HLS.out.sf, ?_⟩
      · rw [HE.out]
        refine hm_mono (hm_keepB HLS.out.m ?_) (by omega)
        refine (((keepB_set _ _ ⟨w.heap.size + 1, 0, none⟩ _ (by simp only; omega)).trans (keepB_set _ _ ⟨w.heap.size + 1, 1, none⟩ _ (by simp only; omega))).trans (keepB_set _ _ ⟨w.heap.size + 1, 2, none⟩ _ (by simp only; omega))).trans (keepB_set _ _ ⟨w.heap.size + 1, 3, none⟩ _ (by simp only; omega))
      · rw [HE.out]
        exact ownI_mono (ownI_same (w' := setFour wr (w.heap.size + 1) _ _ _ _) HLS.out.f (fun g hg => setFour_other _ _ _ _ _ _ g (by have := (ownI_lt HLS.out.f g hg).1; omega))) (by omega)
      · iterate 4 refine Below.setCell ?_ (by simp only; omega) _
        exact HBl.out
    · have HST : Hid (ToR R (stepD HH id rest fr).1 (stepD HH id rest fr).2.1 (stepD HH id rest fr).2.2) := toR_step HTR.out (by omega)
      have hidw : in64 id := HTR.out.ok.ids id (by simp)
      have hol := HTR.out.ok.objs
      have HOKF : Hid (∀ z ∈ HH.objs, z.field.length ≤ 1048576) := HTR.out.ok.fields
      have HBUF : Hid (HH.buffer.length + muL (id :: rest) fr ≤ 11534345) := HTR.out.ok.buf
      obtain ⟨g, off, c, hv, hcell, hrc, hcb, hpos, hzero⟩ := ownQ_cons HLS.out.q
      simp only [List.length_cons, Value.slice.injEq, true_and] at hv
      obtain ⟨rfl, rfl⟩ := hv
      have HPOP : Hid (∀ v', ownQ wr W.heap.size v' rest → v'.ownBlock = some g → LS W wr W.heap.size gx s HH v' (.slice fa fr.length fc) rest fr) := fun v' h1 h2 => ls_pop HLS.out v' rest h1 (by rw [h2]; rfl)
      have HPOS : Hid (0 < c → ownQ wr W.heap.size (.slice (some ⟨g, off + 1, none⟩) rest.length c) rest) := hpos
      have HZERO : Hid (c = 0 → ownQ wr W.heap.size (.slice (some ⟨g, off, none⟩) rest.length c) rest) := hzero
      have XF := HLS.out.x
      have y0 := XF.cell 0
      have y1 := XF.cell 1
      have y2 := XF.cell 2
      have y3 := XF.cell 3
      simp only [List.getElem?_toArray, List.getElem?_cons_zero, List.getElem?_cons_succ] at y0 y1 y2 y3
      have CS : Hid (∀ _ : Unit, _) := fun (_ : Unit) => sSlotOf_calls s.v HH id wr (hm_rd HLS.out.m) (by omega) hidw.1 hidw.2
      rw [show s.v = .agg #[.slice s.oa s.os.length s.oc, .slice s.wa s.wn s.wc, .slice s.ba s.bn s.bc, .slice s.sa s.sn s.sc] from rfl] at CS
      have HML : Hid (HM wr W.heap.size s HH) := HLS.out.m
      have HMU : Hid (muL (id :: rest) fr = rest.length + 1 + (9 - fr.length) * 1048577) := by show _ = _; unfold muL; rw [List.length_cons]
      obtain ⟨m, hm⟩ : ∃ m, rest.length = m := ⟨_, rfl⟩
      have Hm : Hid (rest.length = m) := hm
      rw [List.length_cons, hm]
      rw [hm] at HPOS HZERO hrc
      clear hm hpos hzero XF HTR HLS
      have hb1 : decide ((0 : Int) < (m : Int) + 1) = true := decide_eq_true (by omega)
      have hb2 : decide ((fr.length : Int) ≤ 8) = true := decide_eq_true (by omega)
      obtain ⟨vq2, hsl, HQ1, HLQ⟩ : ∃ vq2, (∀ X : World, (Instr.slice 26 (.slice (some ⟨g, off, none⟩) (m + 1) (c + 1)) (some (.int .i64 1)) none none).run Try.prog X = .ok vq2 X) ∧ Hid (ownQ wr W.heap.size vq2 rest ∧ vq2.ownBlock = some g) ∧ Hid (lenV vq2 = m) := by
        obtain ⟨i0, hi, hz0, hz1, hz2⟩ := info_parts infoI
        refine ⟨.slice (if c = 0 then some ⟨g, off, none⟩ else some ⟨g, off + 1, none⟩) m c, fun X => ?_, ?_, rfl⟩
        · simp [Instr.slice, run_underlying elI.ht, Instr.sliceBounds, sizeOf, typeInfo, hi, hz1, Instr.sliceBound, asIntOf, Addr.add]
          intro h
          omega
        · by_cases hc0 : c = 0
          · rw [if_pos hc0]; exact ⟨HZERO.out hc0, rfl⟩
          · rw [if_neg hc0]; exact ⟨HPOS.out (by omega), rfl⟩
      have hsl2 : ∀ X : World, (Instr.sliceAt 26 (.slice (some ⟨g, off, none⟩) (m + 1) (c + 1)) (some (.int .i64 1)) none none).run Try.prog X = .ok vq2 X := fun X => by rw [run_sliceAt_slice _ _ _ _ _ _ Try.underlying26]; exact hsl X
      have HL2 : Hid (LS W wr W.heap.size gx s HH vq2 (.slice fa fr.length fc) rest fr) := HPOP.out _ HQ1.out.1 HQ1.out.2
      clear HZERO HPOS HPOP HQ1
      go_wp2_with fail
      clear hsl hsl2 hcell hb1 hb2 y1 y2 y3
      refine (CS.out ()).mono ?_
      rintro e Y ⟨rfl, hY⟩
      have HLY : Hid (LS W Y W.heap.size gx s HH vq2 (.slice fa fr.length fc) rest fr) := ls_later HL2.out hY
      clear CS y0 HL2 hY
      by_cases hk : 0 ≤ slotZ HH id
      · obtain ⟨k, hkl, ek, hk8, hlv, -⟩ := slotZ_yes HH id hk
        obtain ⟨go, hgo, hgB, hgl⟩ := hm_own HLY.out.m k hkl
        obtain ⟨hk2, hob, hfz⟩ := hm_obj HLY.out.m k hkl go hgo
        have hgg : go ≠ gx := fun e => HLY.out.sx (by rw [← e]; exact .inl ⟨_, hgo, rfl⟩)
        have hgg1 : ¬ go = gx := hgg
        have hgg2 : ¬ gx = go := fun e => hgg e.symm
        have HGO : Hid (s.oa = some ⟨go, 0, none⟩) := hgo
        have HSA : Hid (stepD HH id rest fr = _) := step_at (rest := rest) (fr := fr) hkl ek
        obtain ⟨o, ho⟩ : ∃ o, HH.objs[k] = o := ⟨_, rfl⟩
        rw [ho] at HSA hob
        have HOO : Hid (HH.objs[k] = o) := ho
        have hofl : o.field.length ≤ 1048576 := by rw [← ho]; exact HOKF.out _ (List.getElem_mem hkl)
        obtain ⟨M, hM⟩ : ∃ M, wrap64 (o.count - 1) = M := ⟨_, rfl⟩
        rw [hM] at HSA
        have HK5 : Hid (Y.cell? ⟨go, k * 8 + 5, none⟩ = some (.int .i64 o.count)) := hob.c5
        have HZ5 : Hid (Y.frozen? ⟨go, k * 8 + 5, none⟩ = false) := hfz 5 (by omega)
        have HY0 : Hid (Y.cell? ⟨gx, 0, none⟩ = some (.slice (some ⟨go, 0, none⟩) s.os.length s.oc)) := by
          have h := HLY.out.x.cell 0
          rw [hgo] at h
          exact h
        have HKS : Hid (k < s.os.length) := hk2
        have HM' : Hid (wrap64 (o.count - 1) = M) := hM
        have HL1 : Hid (LS W (Y.setCell ⟨go, k * 8 + 5, none⟩ (.int .i64 M)) W.heap.size gx s (setO HH k { o with count := M }) vq2 (.slice fa fr.length fc) rest fr) := by
          have h1 := hm_count HLY.out.m k hkl go HGO.out M
          rw [HOO.out] at h1
          exact ls_obj HLY.out go _ _ HGO.out h1
        have hkl1 : k < (setO HH k { o with count := M }).objs.length := by simpa [setO] using hkl
        have HO1 : Hid ((setO HH k { o with count := M }).objs[k] = { o with count := M }) := by show _ = _; simp [setO]
        rw [ek]
        clear hgo hob hfz hlv ho hk ek HML hM
        go_wp2
        refine wp_region_last 12 (by kernel_rfl) (by kernel_rfl) (RK gx go s.os.length s.oc k o.count) rk_mono ?_ ?_
        · intro i oo hi hoo a Z hZ hA hdep
          have Z0 := (hZ.cell (p := ⟨gx, 0, none⟩) HLY.out.x.lt).trans HY0.out
          have Z5 := (hZ.cell (p := ⟨go, k * 8 + 5, none⟩) hgl).trans HK5.out
          match i, hi, hoo with
          | 0, _, hoo => obtain rfl := Option.some.inj hoo; exact opField 0 (by omega) (alike_at hA (t := 6) (by kernel_rfl)) ⟨_, rfl, Below.refl _ _, rfl⟩
          | 1, _, hoo =>
            obtain rfl := Option.some.inj hoo
            have e1 : a.eval (.tmp 36) = .pointer (some ⟨gx, 0, none⟩) := hdep ⟨0, .data⟩ (by simp) rfl 36 rfl
            exact opLoadO e1 Z0 ⟨_, rfl, Below.refl _ _, rfl⟩
          | 2, _, hoo => obtain rfl := Option.some.inj hoo; exact opMove (alike_at hA (t := 10) (by kernel_rfl)) ⟨_, rfl, Below.refl _ _, rfl⟩
          | 3, _, hoo => obtain rfl := Option.some.inj hoo; exact opField 0 (by omega) (alike_at hA (t := 6) (by kernel_rfl)) ⟨_, rfl, Below.refl _ _, rfl⟩
          | 4, _, hoo =>
            obtain rfl := Option.some.inj hoo
            have e1 : a.eval (.tmp 39) = .pointer (some ⟨gx, 0, none⟩) := hdep ⟨3, .data⟩ (by simp) rfl 39 rfl
            exact opLoadO e1 Z0 ⟨_, rfl, Below.refl _ _, rfl⟩
          | 5, _, hoo => obtain rfl := Option.some.inj hoo; exact opMove (alike_at hA (t := 10) (by kernel_rfl)) ⟨_, rfl, Below.refl _ _, rfl⟩
          | 6, _, hoo =>
            obtain rfl := Option.some.inj hoo
            have e1 : a.eval (.tmp 40) = .slice (some ⟨go, 0, none⟩) s.os.length s.oc := hdep ⟨4, .data⟩ (by simp) rfl 40 rfl
            have e2 : a.eval (.tmp 41) = .int .i64 (k : Int) := hdep ⟨5, .data⟩ (by simp) rfl 41 rfl
            exact opIndexO e1 e2 HKS.out ⟨_, rfl, Below.refl _ _, rfl⟩
          | 7, _, hoo =>
            obtain rfl := Option.some.inj hoo
            have e1 : a.eval (.tmp 42) = .pointer (some ⟨go, k * 8, none⟩) := hdep ⟨6, .data⟩ (by simp) rfl 42 rfl
            exact opFieldO5 e1 ⟨_, rfl, Below.refl _ _, rfl⟩
          | 8, _, hoo =>
            obtain rfl := Option.some.inj hoo
            have e1 : a.eval (.tmp 43) = .pointer (some ⟨go, k * 8 + 5, none⟩) := hdep ⟨7, .data⟩ (by simp) rfl 43 rfl
            exact opLoadInt e1 Z5 ⟨_, rfl, Below.refl _ _, rfl⟩
          | 9, _, hoo =>
            obtain rfl := Option.some.inj hoo
            have e1 : a.eval (.tmp 44) = .int .i64 o.count := hdep ⟨8, .data⟩ (by simp) rfl 44 rfl
            exact opSub1 e1 ⟨_, rfl, Below.refl _ _, rfl⟩
          | 10, _, hoo =>
            obtain rfl := Option.some.inj hoo
            have e1 : a.eval (.tmp 37) = .slice (some ⟨go, 0, none⟩) s.os.length s.oc := hdep ⟨1, .data⟩ (by simp) rfl 37 rfl
            have e2 : a.eval (.tmp 38) = .int .i64 (k : Int) := hdep ⟨2, .data⟩ (by simp) rfl 38 rfl
            exact opIndexO e1 e2 HKS.out ⟨_, rfl, Below.refl _ _, rfl⟩
          | 11, _, hoo =>
            obtain rfl := Option.some.inj hoo
            have e1 : a.eval (.tmp 46) = .pointer (some ⟨go, k * 8, none⟩) := hdep ⟨10, .data⟩ (by simp) rfl 46 rfl
            exact opFieldO5 e1 ⟨_, rfl, Below.refl _ _, rfl⟩
        intro oo hoo a Z hZ hA hdep
        obtain rfl := Option.some.inj hoo
        have e1 : a.eval (.tmp 47) = .pointer (some ⟨go, k * 8 + 5, none⟩) := hdep ⟨11, .data⟩ (by simp) rfl 47 rfl
        have e2 : a.eval (.tmp 45) = .int .i64 (wrap64 (o.count - 1)) := hdep ⟨9, .data⟩ (by simp) rfl 45 rfl
        rw [HM'.out] at e2
        refine opStoreInt e1 e2 ((hZ.cell (p := ⟨go, k * 8 + 5, none⟩) hgl).trans HK5.out) ((hZ.frozen (p := ⟨go, k * 8 + 5, none⟩) hgl).trans HZ5.out) ?_
        obtain ⟨us, -, rfl⟩ := alike_tmps hA [36, 37, 38, 39, 40, 41, 42, 43, 44, 45, 46, 47] (by kernel_rfl)
        have HL1Z : Hid (LS W (Z.setCell ⟨go, k * 8 + 5, none⟩ (.int .i64 M)) W.heap.size gx s (setO HH k { o with count := M }) vq2 (.slice fa fr.length fc) rest fr) := by
          have hLZ := ls_later HLY.out hZ
          have h1 := hm_count hLZ.m k hkl go HGO.out M
          rw [HOO.out] at h1
          exact ls_obj hLZ go _ _ HGO.out h1
        obtain ⟨Y1, hY1⟩ : ∃ Y1, Y1 = Z.setCell ⟨go, k * 8 + 5, none⟩ (.int .i64 M) := ⟨_, rfl⟩
        rw [← hY1] at HL1Z ⊢
        clear hdep hA e1 e2 hoo hZ hY1 HLY HK5 HZ5 HY0 HL1 HM'
        simp only [List.mapIdx_cons, List.mapIdx_nil, Nat.reduceAdd, List.contains_cons, List.contains_nil, Nat.reduceBEq, Bool.or_false, Bool.or_true, if_true, if_false, Bool.false_eq_true]
        have HL1 : Hid (LS W Y1 W.heap.size gx s (setO HH k { o with count := M }) vq2 (.slice fa fr.length fc) rest fr) := HL1Z.out
        clear HL1Z
        obtain ⟨hkZ, ob1, fz1⟩ := hm_obj HL1.out.m k hkl1 go HGO.out
        have k5 := ob1.c5
        have k7 := ob1.c7
        have z7 := fz1 7 (by omega)
        rw [HO1.out] at k5 k7
        simp only at k5 k7
        have y0 := HL1.out.x.cell 0
        have y2 := HL1.out.x.cell 2
        simp only [List.getElem?_toArray, List.getElem?_cons_zero, List.getElem?_cons_succ] at y0 y2
        rw [HGO.out] at y0
        have hks := HKS.out
        have hi0 : (0 : Int) ≤ (k : Int) := by omega
        have hi1 : (k : Int) < (s.os.length : Int) := by omega
        clear ob1 fz1 hkZ
        by_cases hM0 : 0 < M
        · by_cases hp : o.purple = true
          · have HST2 : Hid (ToR R (setO HH k { o with count := M }) rest fr) := by
              have h := HST.out
              rw [HSA.out, if_pos hM0, if_pos hp] at h
              exact h
            rw [hp] at k7
            go_wp2
            go_roundw
            case rel => exact ⟨s, _, rest, fr, HL1.out, HST2.out⟩
            case measure =>
              show lenV vq2 + (9 - fr.length) * 1048577 < (m + 1) + (9 - fr.length) * 1048577
              rw [HLQ.out]
              omega
          · have hpf : o.purple = false := by simpa using hp
            have HST2 : Hid (ToR R { setO HH k { o with count := M, purple := true } with buffer := HH.buffer ++ [id] } rest fr) := by
              have h := HST.out
              rw [HSA.out, if_pos hM0, if_neg hp] at h
              exact h
            have HLP : Hid (LS W (Y1.setCell ⟨go, k * 8 + 7, none⟩ (.bool true)) W.heap.size gx s (setO HH k { o with count := M, purple := true }) vq2 (.slice fa fr.length fc) rest fr) := by
              have h1 := hm_purple HL1.out.m k hkl1 go HGO.out true
              rw [HO1.out] at h1
              have h2 := ls_obj HL1.out go _ _ HGO.out h1
              have e : ({ setO HH k { o with count := M } with objs := (setO HH k { o with count := M }).objs.set k { o with count := M, purple := true } } : HeapD) = setO HH k { o with count := M, purple := true } := by simp [setO]
              rw [e] at h2
              exact h2
            have hb9 : HH.buffer.length ≤ 16777215 := by have := HBUF.out; omega
            obtain ⟨Y2, hY2⟩ : ∃ Y2, Y2 = (Y1.setCell ⟨go, k * 8 + 7, none⟩ (.bool true)).alloc (.cells #[.int .i64 id] 3) := ⟨_, rfl⟩
            have hYs : (Y1.setCell ⟨go, k * 8 + 7, none⟩ (.bool true)).heap.size = Y1.heap.size := by simp [World.setCell]
            have BY2 : Below (Y1.setCell ⟨go, k * 8 + 7, none⟩ (.bool true)).heap.size (Y1.setCell ⟨go, k * 8 + 7, none⟩ (.bool true)) Y2 := by rw [hY2]; exact (Below.refl _ _).alloc (Nat.le_refl _) _
            have HC2 : Hid (Y2.cell? ⟨Y1.heap.size, 0, none⟩ = some (.int .i64 id)) := by show _ = _; rw [hY2, ← hYs, World.cell?_alloc_mark]; rfl
            have HLA : Hid (LS W Y2 W.heap.size gx s (setO HH k { o with count := M, purple := true }) vq2 (.slice fa fr.length fc) rest fr) := ls_later HLP.out BY2
            rw [hpf] at k7
            clear BY2 hYs HLP
            go_wp2_with (at_builtin; rw [← hY2]; clear hY2; refine wpList_appendL rfl _ _ rfl W.heap.size (.slice s.ba s.bn s.bc) HH.buffer rfl HLA.out.m.b ⟨Y1.heap.size, 0, none⟩ id rfl HC2.out hb9 HLA.out.le ?_)
            intro v2 w2 o2 s2 a2 l2 c2
            obtain ⟨ba2, bc2, hv2, -⟩ := rdI_own' o2
            obtain ⟨nb, hnb⟩ : ∃ nb, (HH.buffer ++ [id]).length = nb := ⟨_, rfl⟩
            rw [hnb] at hv2
            subst hv2
            have HNB : Hid ((HH.buffer ++ [id]).length = nb) := hnb
            have hx2 : w2.heap[gx]? = Y2.heap[gx]? := a2.out gx HLA.out.x.lt (fun e => by
              obtain ⟨x, hx, e2⟩ := own_some e
              exact HLA.out.sx (by rw [← e2]; exact .inr (.inr (.inl ⟨x, hx, rfl⟩))))
            have X2 := HLA.out.x.same hx2
            have x2 := X2.cell 2
            have f2 := X2.frozen 2
            simp only [List.getElem?_toArray, List.getElem?_cons_zero, List.getElem?_cons_succ] at x2
            have HLN : Hid (LS W (w2.setCell ⟨gx, 2, none⟩ (.slice ba2 nb bc2)) W.heap.size gx _ { setO HH k { o with count := M, purple := true } with buffer := HH.buffer ++ [id] } vq2 (.slice fa fr.length fc) rest fr) :=
              ls_buf HLA.out (c2.out _ _ HLA.out.bel (Nat.le_refl _)) s2 a2.out ba2 nb bc2 (HH.buffer ++ [id]) HNB.out.symm o2 (fun g hg => by
                rcases l2.out with e | e
                · exact .inl (by rw [← e]; exact hg)
                · rw [e] at hg; injection hg with hg; exact .inr (by omega))
            clear o2 s2 a2 l2 c2 X2 hx2 hnb HLA HC2 y0 y2 k5 k7 z7
            go_wp2
            go_roundw
            case rel => exact ⟨_, _, rest, fr, HLN.out, HST2.out⟩
            case measure =>
              show lenV vq2 + (9 - fr.length) * 1048577 < (m + 1) + (9 - fr.length) * 1048577
              rw [HLQ.out]
              omega
        · have HST2 : Hid (ToR R { setO HH k (emptyD o.gen) with buffer := HH.buffer.filter (fun z => decide (z ≠ id)) } (rest ++ o.field.filter (fun z => decide (0 ≤ z))) (fr ++ [id])) := by
            have h := HST.out
            rw [HSA.out, if_neg hM0] at h
            exact h
          have hkb : s.bn = HH.buffer.length := HL1.out.m.lb
          have hb9 : HH.buffer.length ≤ 16777215 := by have := HBUF.out; omega
          have hrl : rest.length ≤ 11534345 := by have h1 := HBUF.out; have h2 := HMU.out; omega
          obtain ⟨Y2, hY2⟩ : ∃ Y2, Y2 = Y1.alloc (.cells #[.int .i64 id] 3) := ⟨_, rfl⟩
          have BY2 : Below Y1.heap.size Y1 Y2 := by rw [hY2]; exact (Below.refl _ _).alloc (Nat.le_refl _) _
          have HC2 : Hid (Y2.cell? ⟨Y1.heap.size, 0, none⟩ = some (.int .i64 id)) := by show _ = _; rw [hY2, World.cell?_alloc_mark]; rfl
          have HLA : Hid (LS W Y2 W.heap.size gx s (setO HH k { o with count := M }) vq2 (.slice fa fr.length fc) rest fr) := ls_later HL1.out BY2
          have HKB : Hid (s.bn = HH.buffer.length) := hkb
          clear BY2 hkb
          go_wp2_with (at_builtin; rw [← hY2]; clear hY2; refine wpList_appendL rfl _ _ rfl W.heap.size (.slice fa fr.length fc) fr rfl HLA.out.f ⟨Y1.heap.size, 0, none⟩ id rfl HC2.out (by omega) HLA.out.le ?_)
          intro vf3 w3 o3 s3 a3 l3 c3
          have HL3 : Hid (LS W w3 W.heap.size gx s (setO HH k { o with count := M }) vq2 vf3 rest (fr ++ [id])) := ls_fr HLA.out (c3.out _ _ HLA.out.bel (Nat.le_refl _)) s3 a3.out vf3 (fr ++ [id]) o3 (by rcases l3.out with e | e; exact .inl e; exact .inr ⟨_, e, Nat.le_refl _⟩)
          obtain ⟨fa3, fc3, hv3, -⟩ := rdI_own' o3
          obtain ⟨nf, hnf⟩ : ∃ nf, (fr ++ [id]).length = nf := ⟨_, rfl⟩
          rw [hnf] at hv3
          have HNF : Hid (nf = fr.length + 1) := by show _ = _; rw [← hnf]; simp
          subst hv3
          clear o3 s3 a3 l3 c3 hnf HLA HC2 HL1 y0 y2 k5 k7 z7
          obtain ⟨fo, hfo⟩ : ∃ fo, s.os[k].f = fo := ⟨_, rfl⟩
          obtain ⟨co6, hco6⟩ : ∃ co6, s.os[k].c = co6 := ⟨_, rfl⟩
          have HF6 : Hid (∀ Z vq todo, LS W Z W.heap.size gx s (setO HH k { o with count := M }) vq (.slice fa3 nf fc3) todo (fr ++ [id]) → Z.cell? ⟨go, k * 8 + 6, none⟩ = some (.slice fo o.field.length co6) ∧ RdI Z fo o.field ∧ Z.cell? ⟨gx, 0, none⟩ = some (.slice (some ⟨go, 0, none⟩) s.os.length s.oc)) := fun Z vq todo hL => by
            obtain ⟨hk3, ob3, fz3⟩ := hm_obj hL.m k hkl1 go HGO.out
            obtain ⟨hn3, hown3⟩ := hL.m.f k hkl1 hk3
            have c6 := ob3.c6
            rw [HO1.out] at hn3 hown3
            simp only at hn3 hown3
            rw [hn3] at c6 hown3
            obtain ⟨x1, x2, e1, e2⟩ := rdI_own' hown3
            simp only [Value.slice.injEq] at e1
            have h0 := hL.x.cell 0
            rw [HGO.out] at h0
            refine ⟨?_, ?_, h0⟩
            · rw [c6, ← hfo, ← hco6]
            · rw [← hfo, e1.1]; exact e2
          have HLF : Hid (∀ j (h : j < o.field.length), (o.field.take (j + 1)).filter (fun z => decide (0 ≤ z)) = (o.field.take j).filter (fun z => decide (0 ≤ z)) ++ (if decide (0 ≤ o.field[j]) = true then [o.field[j]] else [])) := fun j h => filter_take _ o.field j h
          have HLL : Hid (∀ j, ((o.field.take j).filter (fun z => decide (0 ≤ z))).length ≤ 1048576) := fun j => by
            have h1 := List.length_filter_le (fun z => decide (0 ≤ z)) (o.field.take j)
            rw [List.length_take] at h1
            omega
          have HLE2 : Hid ((o.field.take o.field.length).filter (fun z => decide (0 ≤ z)) = o.field.filter (fun z => decide (0 ≤ z))) := by show _ = _; rw [List.take_length]
          obtain ⟨F, hF⟩ : ∃ F : Nat → List Int, ∀ j, (o.field.take j).filter (fun z => decide (0 ≤ z)) = F j := ⟨fun j => (o.field.take j).filter (fun z => decide (0 ≤ z)), fun _ => rfl⟩
          have HF0 : Hid (F 0 = []) := by show _ = _; rw [← hF]; simp
          simp only [hF] at HLF HLL HLE2
          rw [← HLE2.out] at HST2
          have HL30 : Hid (LS W w3 W.heap.size gx s (setO HH k { o with count := M }) vq2 (.slice fa3 nf fc3) (rest ++ F 0) (fr ++ [id])) := by
            show LS _ _ _ _ _ _ _ _ _ _
            rw [HF0.out, List.append_nil]
            exact HL3.out
          clear hF hfo hco6 HL3
          go_wp2
          go_loopw [8, 11] (fun vq i wr => ∃ j : Nat, i = .int .i64 (j : Int) ∧ j ≤ o.field.length ∧ Hid (LS W wr W.heap.size gx s (setO HH k { o with count := M }) vq (.slice fa3 nf fc3) (rest ++ F j) (fr ++ [id]))) (fun _ i _ => o.field.length - (intOf i).toNat)
          case atStart => exact ⟨0, rfl, Nat.zero_le _, HL30⟩
          case round =>
            clear HL30
            obtain ⟨j, rfl, hjl, HLJ⟩ := hrel
            obtain ⟨c6, hrd, y0⟩ := HF6.out _ _ _ HLJ.out
            by_cases hlt : j < o.field.length
            · obtain ⟨gf, of6, rfl, -, hcf⟩ := hrd j hlt
              have hF1 := HLF.out j hlt
              have hL1 := HLL.out j
              have hj0 : (0 : Int) ≤ (j : Int) := by omega
              have hj1 : (j : Int) < (o.field.length : Int) := by omega
              generalize o.field[j] = z at hF1 hcf
              by_cases hz : 0 ≤ z
              · rw [if_pos (decide_eq_true hz)] at hF1
                have HF1 : Hid (F (j + 1) = F j ++ [z]) := hF1
                obtain ⟨A, hA⟩ : ∃ A, A = wr.alloc (.cells #[.int .i64 z] 3) := ⟨_, rfl⟩
                have HLA : Hid (LS W A W.heap.size gx s (setO HH k { o with count := M }) _ (.slice fa3 nf fc3) (rest ++ F j) (fr ++ [id])) := ls_later HLJ.out (by rw [hA]; exact (Below.refl _ _).alloc (Nat.le_refl _) _)
                have HSZ : Hid (SrcC A (some ⟨wr.heap.size, 0, none⟩) [z].length 1 ([z].map intV)) := ⟨rfl, fun i u hi => ⟨_, rfl, by rw [hA]; exact src_int wr z i u hi⟩, fun u hu => by simp at hu; subst hu; rfl⟩
                clear hF1 hrd
                go_wp2_with (at_builtin; rw [← hA]; clear hA; refine wpList_appendQ rfl _ _ rfl W.heap.size _ (rest ++ F j) rfl HLA.out.q (some ⟨wr.heap.size, 0, none⟩) [z] 1 1 rfl rfl HSZ.out (by rw [List.length_append, List.length_singleton]; omega) HLA.out.le ?_)
                intro v5 w5 o5 s5 a5 l5 c5
                have HL5 : Hid (LS W w5 W.heap.size gx s (setO HH k { o with count := M }) v5 (.slice fa3 nf fc3) (rest ++ F (j + 1)) (fr ++ [id])) := by
                  have h := ls_todo HLA.out (c5.out _ _ HLA.out.bel (Nat.le_refl _)) s5 a5.out v5 (rest ++ (F j ++ [z])) o5 (by rcases l5.out with e | e; exact .inl e; exact .inr ⟨_, e, Nat.le_refl _⟩)
                  rw [← HF1.out] at h
                  exact h
                clear o5 s5 a5 l5 c5 HLA HSZ
                go_wp2
                go_roundw
                case rel => exact ⟨j + 1, by go_num, by omega, HL5⟩
                case measure => simp [intOf]; omega
              · rw [if_neg (by simpa using hz), List.append_nil] at hF1
                have h5 := HLJ.out
                rw [← hF1] at h5
                have HL5 : Hid _ := h5
                clear hF1 h5 hrd
                go_wp2
                go_roundw
                case rel => exact ⟨j + 1, by go_num, by omega, HL5⟩
                case measure => simp [intOf]; omega
            · obtain rfl : j = o.field.length := by omega
              obtain ⟨X5, hX5⟩ : ∃ X5, X5 = wr := ⟨_, rfl⟩
              rw [← hX5] at HLJ c6 y0 ⊢
              have HL5 := HLJ
              have hlq5 := (ownQ_form HL5.out.q)
              obtain ⟨qa5, qc5, hq5, -⟩ := hlq5
              have HQ5 : Hid (lenV (.slice qa5 (rest ++ F o.field.length).length qc5) = rest.length + (F o.field.length).length) := by show (rest ++ F o.field.length).length = _; rw [List.length_append]
              have hFL := HLL.out o.field.length
              obtain ⟨nq, hnq⟩ : ∃ nq, (rest ++ F o.field.length).length = nq := ⟨_, rfl⟩
              rw [hnq] at hq5 HQ5
              subst hq5
              have CW : Hid (∀ _ : Unit, _) := fun (_ : Unit) => sWithout_calls X5 s.ba s.bc HH.buffer id (hm_parts HL5.out.m).2.2.1 hb9
              rw [← HKB.out] at CW
              have g5 := HL5.out.x.cell 2
              simp only [List.getElem?_toArray, List.getElem?_cons_zero, List.getElem?_cons_succ] at g5
              generalize hBf : HH.buffer.filter (fun z => decide (z ≠ id)) = Bf at CW HST2
              clear hBf hX5 hrd hnq HLJ
              go_wp2_with fail
              refine (CW.out ()).mono ?_
              rintro e w6 ⟨x6, rfl, o6, b6⟩
              obtain ⟨ba6, bc6, rfl, -⟩ := rdI_own' o6
              have hs6 := b6.size
              have HL6 : Hid (LS W (w6.setCell ⟨gx, 2, none⟩ (.slice ba6 Bf.length bc6)) W.heap.size gx { s with ba := ba6, bn := Bf.length, bc := bc6 } { setO HH k { o with count := M } with buffer := Bf } (.slice qa5 nq qc5) (.slice fa3 nf fc3) (rest ++ F o.field.length) (fr ++ [id])) :=
                ls_buf HL5.out (HL5.out.bel.trans (b6.mono HL5.out.le)) hs6 (fun i hi _ => b6.block i hi) ba6 Bf.length bc6 Bf rfl (ownI_mono o6 HL5.out.le) (fun g hg => .inr (ownI_lt o6 g hg).1)
              have X6 := HL5.out.x.later b6
              have g6 := X6.cell 2
              have f6 := X6.frozen 2
              simp only [List.getElem?_toArray, List.getElem?_cons_zero, List.getElem?_cons_succ] at g6
              have hkl6 : k < ({ setO HH k { o with count := M } with buffer := Bf } : HeapD).objs.length := hkl1
              obtain ⟨nB, hnB⟩ : ∃ nB, Bf.length = nB := ⟨_, rfl⟩
              rw [hnB] at HL6
              rw [hnB]
              obtain ⟨Y6, hY6⟩ : ∃ Y6, Y6 = w6.setCell ⟨gx, 2, none⟩ (.slice ba6 nB bc6) := ⟨_, rfl⟩
              rw [← hY6] at HL6
              have HO6 : Hid (({ setO HH k { o with count := M } with buffer := Bf } : HeapD).objs[k] = { o with count := M }) := HO1.out
              have HS6 : Hid (∀ Z, Below Y6.heap.size Y6 Z → Z.cell? ⟨gx, 0, none⟩ = some (.slice (some ⟨go, 0, none⟩) s.os.length s.oc) ∧ Z.cell? ⟨go, k * 8 + 1, none⟩ = some (.int .i64 o.gen)) := fun Z hZ => by
                have hL := ls_later HL6.out hZ
                have h0 := hL.x.cell 0
                obtain ⟨hkk, obb, _⟩ := hm_obj hL.m k hkl6 go HGO.out
                have h1 := obb.c1
                rw [HO6.out] at h1
                simp only [HGO.out] at h0
                exact ⟨h0, h1⟩
              have HS8 : Hid (∀ Z, Below Y6.heap.size Y6 Z → ObjAt Z go (k * 8) { o with count := M } (.slice s.os[k].f s.os[k].n s.os[k].c) ∧ ∀ q, q < 8 → Z.frozen? ⟨go, k * 8 + q, none⟩ = false) := fun Z hZ => by
                obtain ⟨hkk, obb, fzz⟩ := hm_obj (ls_later HL6.out hZ).m k hkl6 go HGO.out
                rw [HO6.out] at obb
                exact ⟨obb, fzz⟩
              have HSS : Hid (∀ Z a7 c7, Below Y6.heap.size Y6 Z → (setObj Z go (k * 8) (emptyD o.gen) (.slice a7 3 c7)).cell? ⟨gx, 0, none⟩ = some (.slice (some ⟨go, 0, none⟩) s.os.length s.oc) ∧ (setObj Z go (k * 8) (emptyD o.gen) (.slice a7 3 c7)).cell? ⟨go, k * 8 + 1, none⟩ = some (.int .i64 o.gen)) := fun Z a7 c7 hZ => by
                refine ⟨?_, (setObj_at Z go (k * 8) (emptyD o.gen) (.slice a7 3 c7) (fun q hq => objAt_some (HS8.out Z hZ).1 q hq)).c1⟩
                rw [← (HS6.out Z hZ).1]
                unfold setObj
                iterate 8 rw [keep_far _ _ (by exact hgg)]
              have HPUT : Hid (∀ Z a7 c7, Below Y6.heap.size Y6 Z → ownI Z Y6.heap.size (.slice a7 3 c7) [-1, -1, -1] → SL W W.heap.size gx R (.slice fa3 nf fc3) (.slice qa5 nq qc5) (setObj Z go (k * 8) (emptyD o.gen) (.slice a7 3 c7))) := fun Z a7 c7 hZ h7 => by
                have hL := ls_put HL6.out hZ k hkl6 go HGO.out (emptyD o.gen) a7 c7 h7
                have e : setO { setO HH k { o with count := M } with buffer := Bf } k (emptyD o.gen) = { setO HH k (emptyD o.gen) with buffer := Bf } := by simp [setO]
                rw [e] at hL
                exact ⟨_, _, _, _, hL, HST2.out⟩
              simp only [setObj, emptyD] at HSS
              clear o6 b6 CW X6 g5 HL5 hnB HL6 c6 y0
              go_wp2
              rw [← hY6]
              clear hY6 g6 f6
              have D6 : Below Y6.heap.size Y6 Y6.drew := (Below.refl _ _).drew
              obtain ⟨m0, m1⟩ := HS6.out _ (Below.refl _ _)
              go_region_held (fun Z => Z.cell? ⟨gx, 0, none⟩ = some (.slice (some ⟨go, 0, none⟩) s.os.length s.oc) ∧ Z.cell? ⟨go, k * 8 + 1, none⟩ = some (.int .i64 o.gen))
                (first | with_reducible exact HS6.out _ B7 | with_reducible exact HS6.out _ D6 | with_reducible exact HSS.out _ _ _ B7)
                (first | (go_at_call 53; refine (sNone3_calls _).mono ?_; rintro e w7 ⟨a7, c7, rfl, o7, b7⟩; (have B7 := D6.trans (b7.mono D6.size)); (obtain ⟨ob7, fz7⟩ := HS8.out _ B7); (obtain ⟨v0, e0⟩ := objAt_some ob7 0 (by omega)); (obtain ⟨v1, e1⟩ := objAt_some ob7 1 (by omega)); (obtain ⟨v2, e2⟩ := objAt_some ob7 2 (by omega)); (obtain ⟨v3, e3⟩ := objAt_some ob7 3 (by omega)); (obtain ⟨v4, e4⟩ := objAt_some ob7 4 (by omega)); (obtain ⟨v5, e5⟩ := objAt_some ob7 5 (by omega)); (obtain ⟨v6, e6⟩ := objAt_some ob7 6 (by omega)); (obtain ⟨v7, e7⟩ := objAt_some ob7 7 (by omega)); (have n0 := fz7 0 (by omega)); (have n1 := fz7 1 (by omega)); (have n2 := fz7 2 (by omega)); (have n3 := fz7 3 (by omega)); (have n4 := fz7 4 (by omega)); (have n5 := fz7 5 (by omega)); (have n6 := fz7 6 (by omega)); (have n7 := fz7 7 (by omega)); (rw [Nat.add_zero] at e0 n0); (have HFIN : Hid _ := HPUT.out w7 a7 c7 B7 o7); (clear ob7 fz7)))
              all_goals
                clear e0 e1 e2 e3 e4 e5 e6 e7 n0 n1 n2 n3 n4 n5 n6 n7 m0 m1
                go_wp2
                go_roundw
                case rel => exact HFIN.out
                case measure =>
                  show nq + (9 - nf) * 1048577 < (m + 1) + (9 - fr.length) * 1048577
                  have h1 : nq = rest.length + (F o.field.length).length := HQ5.out
                  rw [h1, HNF.out, Hm.out]
                  omega
      · have HST2 : Hid (ToR R HH rest fr) := by
          have h := HST.out
          rw [step_dead (by omega)] at h
          exact h
        generalize slotZ HH id = z at hk ⊢
        have hz : z < 0 := by omega
        clear HML
        go_wp2
        go_roundw
        case rel => exact ⟨s, HH, rest, fr, HLY.out, HST2.out⟩
        case measure =>
          show lenV vq2 + (9 - fr.length) * 1048577 < (m + 1) + (9 - fr.length) * 1048577
          rw [HLQ.out]
          omega

end Go.Proofs.Ytohhabbhdpohcaa
