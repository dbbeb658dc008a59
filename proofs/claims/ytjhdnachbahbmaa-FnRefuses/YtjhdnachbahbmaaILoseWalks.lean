/- What impl.Lose makes. -/
import Derived.Test.YtjhdnachbahbmaaLenV
import Derived.Test.YtjhdnachbahbmaaLoseParts
import Derived.WalkMore
import Derived.ScopeJumps
namespace Go.Proofs.Ytjhdnachbahbmaa
open Go.RowKit
set_option linter.unusedVariables false
set_option maxRecDepth 100000

/-- A scope in which the run jumps back to one label: the pass from the label is walked once. -/
theorem scope_jumps2 {P : Program} {Q : Exit → Act → World → Prop} {a : Act} {w : World} {c body : Code} (l : Nat) (J : Act → World → Prop) (μ : Act → World → Nat) (hf : findLabel c l = some (Code.skip.seq body))
    (pass : ∀ a w, J a w → body.wp P (Exit.jump l (fun a' w' => J a' w' ∧ μ a' w' < μ a w) Q) a w)
    (first : (∀ a w, J a w → body.wp P (Exit.jump l J Q) a w) → c.wp P (Exit.jump l J Q) a w) : (Code.scope c).wp P Q a w := by
  refine wp_scope_jumps l J μ hf (first (fun a w h => Code.wp_mono (fun e a' w' hq => ?_) (pass a w h))) (fun a w h => wp_seq (wp_skip (pass a w h)))
  cases e <;> first | exact hq | exact ⟨hq.1, hq.2.1⟩

def muV (a : Act) : Nat := lenV (a.tmps.getD 7 undef) + (9 - lenV (a.tmps.getD 8 undef)) * 1048577
/-- What to lose comes to. -/
def loseR (H : HeapD) (ids : List Int) : HeapD × List Int := loseF (muL ids []) H ids []
theorem toR_begin {H : HeapD} {ids : List Int} (hs : SmallH H) (hw : ∀ z ∈ H.objs, ∀ x ∈ z.field, in64 x) (hl : ids.length ≤ 1048576) (hi : ∀ x ∈ ids, in64 x) : ToR (loseR H ids) H ids [] :=
  ⟨⟨hs.objs, hs.fields, hw, hi, by simp, by have := hs.buffer; unfold muL; simp; omega, hs.weaks, hs.sites⟩, _, Nat.le_refl _, rfl⟩

/-- What holds at the label. -/
def JL (W : World) (B : Nat) (R : HeapD × List Int) (v0 v1 : Value) (P r : Nat) (a : Act) (X : World) : Prop := ∃ gx s H vq vf todo fr, LS W X B gx s H vq vf todo fr ∧ ToR R H todo fr ∧ ∃ u9 u10 u11 u12 u13 u14 u15 u16 u17 u18 u19 u20 u21 u22 u23 u24 u25 u26 u27 u28 u29 u30 u31 u32 u33 u34 u35 u36 u37 u38 u39 u40 u41 u42 u43 u44 u45 u46 u47 u48 u49 u50 u51 u52 u53 u54 u55 u56 u57 u58 u59 u60 u61 u62 u63 u64 u65 u66 u67 u68 u69 u70 u71 u72 u73 u74 : Value, a = ⟨#[v0, v1, .pointer (some ⟨P, 0, none⟩), undef, .pointer (some ⟨r, 0, none⟩), .slice none 0 0, .pointer (some ⟨gx, 0, none⟩), vq, vf, u9, u10, u11, u12, u13, u14, u15, u16, u17, u18, u19, u20, u21, u22, u23, u24, u25, u26, u27, u28, u29, u30, u31, u32, u33, u34, u35, u36, u37, u38, u39, u40, u41, u42, u43, u44, u45, u46, u47, u48, u49, u50, u51, u52, u53, u54, u55, u56, u57, u58, u59, u60, u61, u62, u63, u64, u65, u66, u67, u68, u69, u70, u71, u72, u73, u74], []⟩

set_option maxHeartbeats 8000000 in
theorem iLose_calls (v : Value) (H : HeapD) (ia : Option Addr) (ic : Nat) (ids : List Int) (w : World) (h : RdH w v H) (hs : SmallH H) (hw : ∀ z ∈ H.objs, ∀ x ∈ z.field, in64 x) (hri : RdI w ia ids) (hil : ids.length ≤ 1048576) (hiw : ∀ x ∈ ids, in64 x) :
    Calls Try.prog 57 #[v, .slice ia ids.length ic] w fun e w' => ∃ (s : HSh) (vf : Value), e = .returned (.tuple #[s.v, vf]) ∧ HM w' w.heap.size s (loseR H ids).1 ∧ ownI w' w.heap.size vf (loseR H ids).2 ∧ (∀ g, vf.ownBlock = some g → ¬ HasB s g) ∧ Below w.heap.size w w' := by
  have HR : Hid (∀ X, Below w.heap.size w X → RdH X v H) := fun X hX => rdH_later h hX
  have HRI : Hid (∀ X, Below w.heap.size w X → SrcC X ia ids.length 1 (ids.map intV)) := fun X hX => (srcI hri).later hX
  have HTR : Hid (ToR (loseR H ids) H ids []) := toR_begin hs hw hil hiw
  obtain ⟨ao, co, aw, cw, ab, cb, sa, sc, rfl, -⟩ := h
  obtain ⟨W, hW⟩ : ∃ W, W = (w.alloc (.cells #[.slice ao H.objs.length co, .slice aw H.weaks.length cw, .slice ab H.buffer.length cb, .slice sa H.sites.length sc] 33)).alloc (.cells #[.slice none 0 0, .slice none 0 0, .slice none 0 0, .slice none 0 0] 33) := ⟨_, rfl⟩
  have BW : Below w.heap.size w W := by rw [hW]; exact ((Below.refl _ _).alloc (Nat.le_refl _) _).alloc (by simp) _
  have hWs : W.heap.size = w.heap.size + 2 := by rw [hW]; simp
  have FR : Four W (w.heap.size + 1) (.slice none 0 0) (.slice none 0 0) (.slice none 0 0) (.slice none 0 0) := by
    rw [hW]
    have f1 := Four.new (w.alloc (.cells #[.slice ao H.objs.length co, .slice aw H.weaks.length cw, .slice ab H.buffer.length cb, .slice sa H.sites.length sc] 33)) (.slice none 0 0) (.slice none 0 0) (.slice none 0 0) (.slice none 0 0)
    simpa using f1
  have HFR : Hid (Four W (w.heap.size + 1) (.slice none 0 0) (.slice none 0 0) (.slice none 0 0) (.slice none 0 0)) := FR
  have HBW : Hid (Below w.heap.size w W) := BW
  have CC : Hid (∀ _ : Unit, _) := fun (_ : Unit) => iCopy_calls _ H W (HR.out W BW) hs
  generalize loseR H ids = R at HTR ⊢
  clear FR BW HR hs hw hri hiw
  go_enter Try.func57, Try.ntmps57
  go_wp2
  refine scope_jumps2 0 (JL W W.heap.size R (.agg #[.slice ao H.objs.length co, .slice aw H.weaks.length cw, .slice ab H.buffer.length cb, .slice sa H.sites.length sc]) (.slice ia ids.length ic) w.heap.size (w.heap.size + 1)) (fun a _ => muV a) rfl ?pass ?first
  case first =>
    intro hp
    have HP : Hid _ := hp
    clear hp
    go_wp2_with fail
    rw [← hW]
    clear hW
    refine (CC.out ()).mono ?_
    rintro e w1 ⟨s, rfl, M1, b1⟩
    have HM1 : Hid (HM w1 W.heap.size s H) := M1
    have HB1 : Hid (Below W.heap.size W w1) := b1
    have hs1 := b1.size
    clear CC M1 b1
    obtain ⟨V, hV⟩ : ∃ V, V = w1.alloc (.cells #[.slice s.oa s.os.length s.oc, .slice s.wa s.wn s.wc, .slice s.ba s.bn s.bc, .slice s.sa s.sn s.sc] 33) := ⟨_, rfl⟩
    have BV : Below w1.heap.size w1 V := by rw [hV]; exact (Below.refl _ _).alloc (Nat.le_refl _) _
    have hVs : V.heap.size = w1.heap.size + 1 := by rw [hV]; simp
    have HXV : Hid (Four V w1.heap.size (.slice s.oa s.os.length s.oc) (.slice s.wa s.wn s.wc) (.slice s.ba s.bn s.bc) (.slice s.sa s.sn s.sc)) := by rw [hV]; exact Four.new w1 _ _ _ _
    have HMV : Hid (HM V W.heap.size s H) := hm_later HM1.out BV
    have HBV : Hid (Below W.heap.size W V) := HB1.out.trans (BV.mono HB1.out.size)
    have CL : Hid (∀ _ : Unit, _) := fun (_ : Unit) => cloneI_calls V ia ids.length ic _ (HRI.out V (HBW.out.trans (HBV.out.mono HBW.out.size))) (by omega)
    rw [show s.v = .agg #[.slice s.oa s.os.length s.oc, .slice s.wa s.wn s.wc, .slice s.ba s.bn s.bc, .slice s.sa s.sn s.sc] from rfl]
    clear BV
    go_wp2_with fail
    rw [← hV]
    clear hV
    refine (CL.out ()).mono ?_
    rintro e w2 ⟨x, rfl, r2, b2⟩
    have HLS : Hid (LS W w2 W.heap.size w1.heap.size s H x (.slice none 0 0) ids []) := by
      have hbl : ∀ g, HasB s g → g < w1.heap.size := fun g hg => (hm_bl HM1.out hg).2
      refine ⟨HBV.out.trans (b2.mono HBV.out.size), Nat.le_refl _, hm_later HMV.out b2, HXV.out.later b2, hs1, fun hh => Nat.lt_irrefl _ (hbl _ hh), ownQ_own (ownI_mono r2 HBV.out.size), ownI_nil _ _, fun g hg hh => ?_, fun g hg => (by cases hg), fun g _ hg => (by cases hg)⟩
      have h1 := (World.ownsRow.lt r2 g hg).1
      have h2 := hbl g hh
      omega
    clear HXV HMV HBV CL r2 b2
    go_wp2
    go_step3
    rename_i hk
    exact hk _ _ (HP.out _ _ ⟨w1.heap.size, s, H, x, .slice none 0 0, ids, [], HLS.out, HTR.out, _, _, _, _, _, _, _, _, _, _, _, _, _, _, _, _, _, _, _, _, _, _, _, _, _, _, _, _, _, _, _, _, _, _, _, _, _, _, _, _, _, _, _, _, _, _, _, _, _, _, _, _, _, _, _, _, _, _, _, _, _, _, _, _, _, _, rfl⟩)
  case pass =>
    clear HTR CC HRI hW hil
    rintro a X ⟨gx, s, HH, vq, vf, todo, fr, hls, htr, u9, u10, u11, u12, u13, u14, u15, u16, u17, u18, u19, u20, u21, u22, u23, u24, u25, u26, u27, u28, u29, u30, u31, u32, u33, u34, u35, u36, u37, u38, u39, u40, u41, u42, u43, u44, u45, u46, u47, u48, u49, u50, u51, u52, u53, u54, u55, u56, u57, u58, u59, u60, u61, u62, u63, u64, u65, u66, u67, u68, u69, u70, u71, u72, u73, u74, rfl⟩
    have HLS : Hid (LS W X W.heap.size gx s HH vq vf todo fr) := hls
    have HTR : Hid (ToR R HH todo fr) := htr
    obtain ⟨qa, qc, rfl, -⟩ := ownQ_form hls.q
    obtain ⟨fa, fc, rfl, -⟩ := rdI_own' hls.f
    have hfl := htr.ok.frl
    have hbX := hls.bel.size
    clear hls htr
    cases todo with
    | nil =>
      have XF := HLS.out.x
      have RF : Four X (w.heap.size + 1) (.slice none 0 0) (.slice none 0 0) (.slice none 0 0) (.slice none 0 0) := (HLS.out.bel.block (w.heap.size + 1) (by omega)).trans HFR.out
      have q0 := XF.cell 0
      have q1 := XF.cell 1
      have q2 := XF.cell 2
      have q3 := XF.cell 3
      have r0 := RF.cell 0
      have r1 := RF.cell 1
      have r2 := RF.cell 2
      have r3 := RF.cell 3
      have z0 := RF.frozen 0
      have z1 := RF.frozen 1
      have z2 := RF.frozen 2
      have z3 := RF.frozen 3
      simp only [List.getElem?_toArray, List.getElem?_cons_zero, List.getElem?_cons_succ] at q0 q1 q2 q3 r0 r1 r2 r3
      have HE : Hid (R = (HH, fr)) := toR_end HTR.out (.inl rfl)
      have HBl : Hid (Below w.heap.size w X) := HBW.out.trans (HLS.out.bel.mono HBW.out.size)
      clear XF RF
      go_wp2
      simp only [Exit.jump]
      refine bodyPost_ret (v := .tuple #[.agg #[.slice s.oa s.os.length s.oc, .slice s.wa s.wn s.wc, .slice s.ba s.bn s.bc, .slice s.sa s.sn s.sc], .slice fa fr.length fc]) (by simp [results, Try.results57, go_sem, *]) rfl ⟨s, .slice fa fr.length fc, rfl, ?_, ?_, HLS.out.sf, ?_⟩
      · rw [HE.out]
        refine hm_mono (hm_keepB HLS.out.m ?_) (by omega)
        refine (((keepB_set _ _ ⟨w.heap.size + 1, 0, none⟩ _ (by simp only; omega)).trans (keepB_set _ _ ⟨w.heap.size + 1, 1, none⟩ _ (by simp only; omega))).trans (keepB_set _ _ ⟨w.heap.size + 1, 2, none⟩ _ (by simp only; omega))).trans (keepB_set _ _ ⟨w.heap.size + 1, 3, none⟩ _ (by simp only; omega))
      · rw [HE.out]
        exact ownI_mono (ownI_same (w' := setFour X (w.heap.size + 1) _ _ _ _) HLS.out.f (fun g hg => setFour_other _ _ _ _ _ _ g (by have := (ownI_lt HLS.out.f g hg).1; omega))) (by omega)
      · iterate 4 refine Below.setCell ?_ (by simp only; omega) _
        exact HBl.out
    | cons id rest =>
    by_cases hf8 : 8 < fr.length
    · obtain ⟨m, hm⟩ : ∃ m, rest.length = m := ⟨_, rfl⟩
      rw [List.length_cons, hm]
      have XF := HLS.out.x
      have RF : Four X (w.heap.size + 1) (.slice none 0 0) (.slice none 0 0) (.slice none 0 0) (.slice none 0 0) := (HLS.out.bel.block (w.heap.size + 1) (by omega)).trans HFR.out
      have q0 := XF.cell 0
      have q1 := XF.cell 1
      have q2 := XF.cell 2
      have q3 := XF.cell 3
      have r0 := RF.cell 0
      have r1 := RF.cell 1
      have r2 := RF.cell 2
      have r3 := RF.cell 3
      have z0 := RF.frozen 0
      have z1 := RF.frozen 1
      have z2 := RF.frozen 2
      have z3 := RF.frozen 3
      simp only [List.getElem?_toArray, List.getElem?_cons_zero, List.getElem?_cons_succ] at q0 q1 q2 q3 r0 r1 r2 r3
      have HE : Hid (R = (HH, fr)) := toR_end HTR.out (.inr hf8)
      have HBl : Hid (Below w.heap.size w X) := HBW.out.trans (HLS.out.bel.mono HBW.out.size)
      clear XF RF
      go_wp2
      simp only [Exit.jump]
      refine bodyPost_ret (v := .tuple #[.agg #[.slice s.oa s.os.length s.oc, .slice s.wa s.wn s.wc, .slice s.ba s.bn s.bc, .slice s.sa s.sn s.sc], .slice fa fr.length fc]) (by simp [results, Try.results57, go_sem, *]) rfl ⟨s, .slice fa fr.length fc, rfl, ?_, ?_, HLS.out.sf, ?_⟩
      · rw [HE.out]
        refine hm_mono (hm_keepB HLS.out.m ?_) (by omega)
        refine (((keepB_set _ _ ⟨w.heap.size + 1, 0, none⟩ _ (by simp only; omega)).trans (keepB_set _ _ ⟨w.heap.size + 1, 1, none⟩ _ (by simp only; omega))).trans (keepB_set _ _ ⟨w.heap.size + 1, 2, none⟩ _ (by simp only; omega))).trans (keepB_set _ _ ⟨w.heap.size + 1, 3, none⟩ _ (by simp only; omega))
      · rw [HE.out]
        exact ownI_mono (ownI_same (w' := setFour X (w.heap.size + 1) _ _ _ _) HLS.out.f (fun g hg => setFour_other _ _ _ _ _ _ g (by have := (ownI_lt HLS.out.f g hg).1; omega))) (by omega)
      · iterate 4 refine Below.setCell ?_ (by simp only; omega) _
        exact HBl.out
    · have HST : Hid (ToR R (stepD HH id rest fr).1 (stepD HH id rest fr).2.1 (stepD HH id rest fr).2.2) := toR_step HTR.out (by omega)
      have hidw : in64 id := HTR.out.ok.ids id (by simp)
      have hol := HTR.out.ok.objs
      have HOKF : Hid (∀ z ∈ HH.objs, z.field.length ≤ 1048576) := HTR.out.ok.fields
      have HBUF : Hid (HH.buffer.length + muL (id :: rest) fr ≤ 11534345) := HTR.out.ok.buf
      obtain ⟨g, off, c, hv, hcell, hrc, hcb, hpos, hzero⟩ := ownQ_cons HLS.out.q
      simp only [List.length_cons, Value.slice.injEq, true_and] at hv
      obtain ⟨rfl, rfl⟩ := hv
      have HPOP : Hid (∀ v', ownQ X W.heap.size v' rest → v'.ownBlock = some g → LS W X W.heap.size gx s HH v' (.slice fa fr.length fc) rest fr) := fun v' h1 h2 => ls_pop HLS.out v' rest h1 (by rw [h2]; rfl)
      have HPOS : Hid (0 < c → ownQ X W.heap.size (.slice (some ⟨g, off + 1, none⟩) rest.length c) rest) := hpos
      have HZERO : Hid (c = 0 → ownQ X W.heap.size (.slice (some ⟨g, off, none⟩) rest.length c) rest) := hzero
      have XF := HLS.out.x
      have HXF : Hid (∀ Y : LaterW X, Four Y.on gx (.slice s.oa s.os.length s.oc) (.slice s.wa s.wn s.wc) (.slice s.ba s.bn s.bc) (.slice s.sa s.sn s.sc)) := fun Y => XF.later Y.bel
      have hne := LaterW.some_ X
      have y0 : ∀ Y : LaterW X, Y.on.cell? ⟨gx, 0, none⟩ = some (.slice s.oa s.os.length s.oc) := fun Y => (HXF.out Y).cell 0
      have y1 : ∀ Y : LaterW X, Y.on.cell? ⟨gx, 1, none⟩ = some (.slice s.wa s.wn s.wc) := fun Y => (HXF.out Y).cell 1
      have y2 : ∀ Y : LaterW X, Y.on.cell? ⟨gx, 2, none⟩ = some (.slice s.ba s.bn s.bc) := fun Y => (HXF.out Y).cell 2
      have y3 : ∀ Y : LaterW X, Y.on.cell? ⟨gx, 3, none⟩ = some (.slice s.sa s.sn s.sc) := fun Y => (HXF.out Y).cell 3
      have CS : Hid (∀ Y : LaterW X, _) := fun Y => iSlotOf_calls s.v HH id Y.on (hm_rd (hm_later HLS.out.m Y.bel)) hol hidw.1 hidw.2
      have CN : Hid (∀ Y : LaterW X, ∀ z, NoLive HH z → _) := fun Y z hz => liveIn_no s.v HH z Y.on (hm_rd (hm_later HLS.out.m Y.bel)) hol hz
      rw [show s.v = .agg #[.slice s.oa s.os.length s.oc, .slice s.wa s.wn s.wc, .slice s.ba s.bn s.bc, .slice s.sa s.sn s.sc] from rfl] at CS CN
      have HML : Hid (HM X W.heap.size s HH) := HLS.out.m
      have HMU : Hid (muL (id :: rest) fr = rest.length + 1 + (9 - fr.length) * 1048577) := by show _ = _; unfold muL; rw [List.length_cons]
      obtain ⟨m, hm⟩ : ∃ m, rest.length = m := ⟨_, rfl⟩
      have Hm : Hid (rest.length = m) := hm
      rw [List.length_cons, hm]
      rw [hm] at HPOS HZERO hrc
      clear hm hpos hzero XF HTR HLS
      have hb1 : ((m : Int) + 1 == 0) = false := by rw [beq_eq_false_iff_ne]; omega
      have hb2 : decide ((8 : Int) < (fr.length : Int)) = false := decide_eq_false (by omega)
      by_cases hc0 : c = 0
      · subst hc0
        obtain rfl : m = 0 := by omega
        have HQ1 : Hid (ownQ X W.heap.size (.slice (some ⟨g, off, none⟩) 0 0) rest) := HZERO.out rfl
        clear HZERO HPOS
        go_wp2
        obtain ⟨vq2, hvq⟩ : ∃ v, v = Value.slice (some ⟨g, off, none⟩) 0 0 := ⟨_, rfl⟩
        have HL2 : Hid (LS W X W.heap.size gx s HH vq2 (.slice fa fr.length fc) rest fr) := by rw [hvq]; exact HPOP.out _ HQ1.out rfl
        have HLQ : Hid (lenV vq2 = 0) := by rw [hvq]; rfl
        rw [← hvq]
        clear hvq HPOP HQ1 hcell hb1 hb2
        by_cases hk : 0 ≤ slotZ HH id
        · obtain ⟨k, hkl, ek, hk8, hlv, -⟩ := slotZ_yes HH id hk
          obtain ⟨go, hgo, hgB, hgl⟩ := hm_own HML.out k hkl
          obtain ⟨hk2, hob, hfz⟩ := hm_obj HML.out k hkl go hgo
          have hgg : go ≠ gx := fun e => HL2.out.sx (by rw [← e]; exact .inl ⟨_, hgo, rfl⟩)
          have hgg1 : ¬ go = gx := hgg
          have hgg2 : ¬ gx = go := fun e => hgg e.symm
          rw [ek, hgo] at CS
          rw [hgo] at y0
          have CL : Hid (∀ Y : LaterW X, _) := fun Y => liveIn_at k s.os.length s.oc Y.on go s.wa s.wn s.wc s.ba s.bn s.bc s.sa s.sn s.sc ((Y.bel.cell (p := ⟨go, k * 8, none⟩) hgl).trans (hob.c0.trans (by rw [hlv]))) (by rw [HML.out.lo]; exact hol) hk8 hk2
          have HGO : Hid (s.oa = some ⟨go, 0, none⟩) := hgo
          have HSA : Hid (stepD HH id rest fr = _) := step_at (rest := rest) (fr := fr) hkl ek
          obtain ⟨o, ho⟩ : ∃ o, HH.objs[k] = o := ⟨_, rfl⟩
          rw [ho] at HSA
          have HOO : Hid (HH.objs[k] = o) := ho
          have hofl : o.field.length ≤ 1048576 := by rw [← ho]; exact HOKF.out _ (List.getElem_mem hkl)
          obtain ⟨M, hM⟩ : ∃ M, wrap64 (o.count - 1) = M := ⟨_, rfl⟩
          rw [hM] at HSA
          clear hgo hob hfz hlv ho CN hk ek HML
          refine wp_region_later X (Below.refl _ _) (by kernel_rfl) (by kernel_rfl) ?_
          repeat (go_big_quiet_step (first
            | (go_at_call 44; refine (CS.out _).mono ?_; rintro e w2 ⟨rfl, b2⟩; exact ⟨rfl, LaterW.step _ b2⟩)
            | (go_at_call 43; refine (CL.out _).mono ?_; rintro e w2 ⟨rfl, b2⟩; exact ⟨rfl, LaterW.step _ b2⟩)))
          refine wpQuiet_nil ?_
          intro Y hYe
          have hY : Below X.heap.size X Y := by obtain ⟨n, hn⟩ := hYe; rw [hn]; exact n.bel
          clear hYe y0 y1 y2 y3 hne CS CL HXF
          have HLY : Hid (LS W Y W.heap.size gx s HH vq2 (.slice fa fr.length fc) rest fr) := ls_later HL2.out hY
          obtain ⟨hkY, obY, fzY⟩ := hm_obj HLY.out.m k hkl go HGO.out
          have k5 := obY.c5
          rw [HOO.out] at k5
          have z5 := fzY 5 (by omega)
          have HL1 : Hid (LS W (Y.setCell ⟨go, k * 8 + 5, none⟩ (.int .i64 M)) W.heap.size gx s (setO HH k { o with count := M }) vq2 (.slice fa fr.length fc) rest fr) := by
            have h1 := hm_count HLY.out.m k hkl go HGO.out M
            rw [HOO.out] at h1
            exact ls_obj HLY.out go _ _ HGO.out h1
          have g2 := HLY.out.x.cell 2
          simp only [List.getElem?_toArray, List.getElem?_cons_zero, List.getElem?_cons_succ] at g2
          have hkl1 : k < (setO HH k { o with count := M }).objs.length := by simpa [setO] using hkl
          have HO1 : Hid ((setO HH k { o with count := M }).objs[k] = { o with count := M }) := by show _ = _; simp [setO]
          obtain ⟨Y1, hY1⟩ : ∃ Y1, Y1 = Y.setCell ⟨go, k * 8 + 5, none⟩ (.int .i64 M) := ⟨_, rfl⟩
          have hYl := HLY.out.le
          have hY1s : Y1.heap.size = Y.heap.size := by rw [hY1]; simp [World.setCell]
          rw [← hY1] at HL1
          clear obY fzY HL2 HLY hY hkY
          by_cases hM0 : 0 < M
          · obtain ⟨hkZ, ob1, fz1⟩ := hm_obj HL1.out.m k hkl1 go HGO.out
            have k7 := ob1.c7
            rw [HO1.out] at k7
            have HK7 : Hid (Y1.cell? ⟨go, k * 8 + 7, none⟩ = some (.bool o.purple)) := k7
            have HZ7 : Hid (Y1.frozen? ⟨go, k * 8 + 7, none⟩ = false) := fz1 7 (by omega)
            clear k7 ob1 fz1 hkZ
            by_cases hp : o.purple = true
            · have HST2 : Hid (ToR R (setO HH k { o with count := M }) rest fr) := by
                have h := HST.out
                rw [HSA.out, if_pos hM0, if_pos hp] at h
                exact h
              have HX1 : Hid (Y1.cell? ⟨gx, 2, none⟩ = some (.slice s.ba s.bn s.bc) ∧ Y1.frozen? ⟨gx, 2, none⟩ = false) := ⟨HL1.out.x.cell 2, HL1.out.x.frozen 2⟩
              go_wp2_with fail
              rw [← hY1]
              clear hY1 k5 z5 g2
              refine (suspect_no Y1 _ go (k * 8) id (by rw [HK7.out, hp])).mono ?_
              rintro e w2 ⟨rfl, hw2⟩
              subst hw2
              obtain ⟨x2, f2⟩ := HX1.out
              go_wp2
              go_step3
              refine ⟨rfl, ⟨gx, _, _, vq2, .slice fa fr.length fc, rest, fr, ls_buf HL1.out HL1.out.bel (Nat.le_refl _) (fun _ _ _ => rfl) s.ba s.bn s.bc HH.buffer HL1.out.m.lb HL1.out.m.b (fun g hg => .inl hg), HST2.out, _, _, _, _, _, _, _, _, _, _, _, _, _, _, _, _, _, _, _, _, _, _, _, _, _, _, _, _, _, _, _, _, _, _, _, _, _, _, _, _, _, _, _, _, _, _, _, _, _, _, _, _, _, _, _, _, _, _, _, _, _, _, _, _, _, _, rfl⟩, ?_⟩
              show lenV vq2 + (9 - lenV (.slice fa fr.length fc)) * 1048577 < (0 + 1) + (9 - fr.length) * 1048577
              rw [HLQ.out]
              simp only [lenV]
              omega
            · have hpf : o.purple = false := by simpa using hp
              have HST2 : Hid (ToR R { setO HH k { o with count := M, purple := true } with buffer := HH.buffer ++ [id] } rest fr) := by
                have h := HST.out
                rw [HSA.out, if_pos hM0, if_neg hp] at h
                exact h
              have HLP : Hid (LS W (Y1.setCell ⟨go, k * 8 + 7, none⟩ (.bool true)) W.heap.size gx s (setO HH k { o with count := M, purple := true }) vq2 (.slice fa fr.length fc) rest fr) := by
                have h1 := hm_purple HL1.out.m k hkl1 go HGO.out true
                rw [HO1.out] at h1
                have h2 := ls_obj HL1.out go _ _ HGO.out h1
                have e : ({ setO HH k { o with count := M } with objs := (setO HH k { o with count := M }).objs.set k { o with count := M, purple := true } } : HeapD) = setO HH k { o with count := M, purple := true } := by simp [setO]
                rw [e] at h2
                exact h2
              have hb9 : HH.buffer.length ≤ 16777215 := by have := HBUF.out; omega
              have HSU : Hid (∀ _ : Unit, _) := fun (_ : Unit) => suspect_yes Y1 W.heap.size (.slice s.ba s.bn s.bc) go (k * 8) id HH.buffer (by rw [HK7.out, hpf]) HZ7.out HL1.out.m.b (fun e => by
                obtain ⟨x, hx, e2⟩ := own_some e
                exact HL1.out.m.sep.ob _ x HGO.out hx e2.symm) hb9 (by omega)
              go_wp2_with fail
              rw [← hY1]
              clear hY1 k5 z5 g2
              refine (HSU.out ()).mono ?_
              rintro e w2 ⟨v2, rfl, o2, s2, a2, l2, c2⟩
              obtain ⟨ba2, bc2, hv2, -⟩ := rdI_own' o2
              obtain ⟨nb, hnb⟩ : ∃ nb, (HH.buffer ++ [id]).length = nb := ⟨_, rfl⟩
              rw [hnb] at hv2
              subst hv2
              have HNB : Hid ((HH.buffer ++ [id]).length = nb) := hnb
              clear hnb
              have hx2 : w2.heap[gx]? = (Y1.setCell ⟨go, k * 8 + 7, none⟩ (.bool true)).heap[gx]? := a2 gx HL1.out.x.lt (fun e => by
                obtain ⟨x, hx, e2⟩ := own_some e
                exact HL1.out.sx (by rw [← e2]; exact .inr (.inr (.inl ⟨x, hx, rfl⟩))))
              have X2 := HLP.out.x.same hx2
              have x2 := X2.cell 2
              have f2 := X2.frozen 2
              simp only [List.getElem?_toArray, List.getElem?_cons_zero, List.getElem?_cons_succ] at x2
              have HLN : Hid (LS W (w2.setCell ⟨gx, 2, none⟩ (.slice ba2 nb bc2)) W.heap.size gx _ { setO HH k { o with count := M, purple := true } with buffer := HH.buffer ++ [id] } vq2 (.slice fa fr.length fc) rest fr) :=
                ls_buf HLP.out (c2 _ _ HLP.out.bel (Nat.le_refl _)) (by simp only [World.setCell, Array.size_modify]; exact s2) (fun i hi hne => a2 i (by simpa [World.setCell] using hi) hne) ba2 nb bc2 (HH.buffer ++ [id]) HNB.out.symm o2 (fun g hg => by
                  rcases l2 with e | ⟨g', e, h'⟩
                  · exact .inl (by rw [← e]; exact hg)
                  · rw [e] at hg; injection hg with hg; exact .inr (by simp only [World.setCell, Array.size_modify]; omega))
              clear o2 s2 a2 l2 c2 X2 hx2
              go_wp2
              go_step3
              refine ⟨rfl, ⟨gx, _, _, vq2, .slice fa fr.length fc, rest, fr, HLN.out, HST2.out, _, _, _, _, _, _, _, _, _, _, _, _, _, _, _, _, _, _, _, _, _, _, _, _, _, _, _, _, _, _, _, _, _, _, _, _, _, _, _, _, _, _, _, _, _, _, _, _, _, _, _, _, _, _, _, _, _, _, _, _, _, _, _, _, _, _, rfl⟩, ?_⟩
              show lenV vq2 + (9 - lenV (.slice fa fr.length fc)) * 1048577 < (0 + 1) + (9 - fr.length) * 1048577
              rw [HLQ.out]
              simp only [lenV]
              omega
          · have HST2 : Hid (ToR R { setO HH k (emptyD o.gen) with buffer := HH.buffer.filter (fun z => decide (z ≠ id)) } (rest ++ o.field.filter (fun z => decide (0 ≤ z))) (fr ++ [id])) := by
              have h := HST.out
              rw [HSA.out, if_neg hM0] at h
              exact h
            have hkb : s.bn = HH.buffer.length := HL1.out.m.lb
            have HKB : Hid (s.bn = HH.buffer.length) := hkb
            have hb9 : HH.buffer.length ≤ 16777215 := by have := HBUF.out; omega
            have hrl : rest.length ≤ 11534345 := by have h1 := HBUF.out; have h2 := HMU.out; omega
            -- the id is freed
            obtain ⟨Y2, hY2⟩ : ∃ Y2, Y2 = Y1.alloc (.cells #[.int .i64 id] 3) := ⟨_, rfl⟩
            have BY2 : Below Y1.heap.size Y1 Y2 := by rw [hY2]; exact (Below.refl _ _).alloc (Nat.le_refl _) _
            have hY2s : Y2.heap.size = Y.heap.size + 1 := by rw [hY2, ← hY1s]; simp
            have HC2 : Hid (Y2.cell? ⟨Y.heap.size, 0, none⟩ = some (.int .i64 id)) := by show _ = _; rw [hY2, ← hY1s, World.cell?_alloc_mark]; rfl
            have HLA : Hid (LS W Y2 W.heap.size gx s (setO HH k { o with count := M }) vq2 (.slice fa fr.length fc) rest fr) := ls_later HL1.out BY2
            clear BY2 hWs hY2s hY1s
            go_wp2_with (at_builtin; rw [← hY1, ← hY2]; clear hY1 hY2; refine wpList_appendL rfl _ _ rfl W.heap.size (.slice fa fr.length fc) fr rfl HLA.out.f ⟨Y.heap.size, 0, none⟩ id rfl HC2.out (by omega) HLA.out.le ?_)
            intro vf3 w3 o3 s3 a3 l3 c3
            have HL3 : Hid (LS W w3 W.heap.size gx s (setO HH k { o with count := M }) vq2 vf3 rest (fr ++ [id])) := ls_fr HLA.out (c3.out _ _ HLA.out.bel (Nat.le_refl _)) s3 a3.out vf3 (fr ++ [id]) o3 (by rcases l3.out with e | e; exact .inl e; exact .inr ⟨_, e, Nat.le_refl _⟩)
            obtain ⟨fa3, fc3, hv3, -⟩ := rdI_own' o3
            obtain ⟨nf, hnf⟩ : ∃ nf, (fr ++ [id]).length = nf := ⟨_, rfl⟩
            rw [hnf] at hv3
            have HNF : Hid (nf = fr.length + 1) := by show _ = _; rw [← hnf]; simp
            subst hv3
            clear o3 s3 a3 l3 c3 hnf k5 z5 g2 HLA HC2 HL1
            -- what it led to waits
            obtain ⟨hk3, ob3, fz3⟩ := hm_obj HL3.out.m k hkl1 go HGO.out
            obtain ⟨hn3, hown3⟩ := HL3.out.m.f k hkl1 hk3
            have c6 := ob3.c6
            rw [HO1.out] at hn3 hown3
            simp only at hn3 hown3
            rw [hn3] at c6 hown3
            obtain ⟨fo, co6, hfo⟩ : ∃ fo co6, Value.slice s.os[k].f o.field.length s.os[k].c = .slice fo o.field.length co6 ∧ RdI w3 fo o.field := by
              obtain ⟨x1, x2, e1, e2⟩ := rdI_own' hown3
              exact ⟨x1, x2, e1, e2⟩
            rw [hfo.1] at c6
            have CLT : Hid (∀ _ : Unit, _) := fun (_ : Unit) => leadsTo_calls w3 go (k * 8) fo co6 o.field c6 hfo.2 hofl
            have hflt : (o.field.filter (fun z => decide (0 ≤ z))).length ≤ 1048576 := Nat.le_trans (List.length_filter_le _ _) hofl
            clear hk3 ob3 fz3 hn3 hown3 c6 hfo
            generalize hLd : o.field.filter (fun z => decide (0 ≤ z)) = Ld at CLT HST2 hflt
            clear hLd
            go_wp2_with fail
            refine (CLT.out ()).mono ?_
            rintro e w4 ⟨x4, rfl, o4, b4⟩
            have HL4 : Hid (LS W w4 W.heap.size gx s (setO HH k { o with count := M }) vq2 (.slice fa3 nf fc3) rest (fr ++ [id])) := ls_later HL3.out b4
            obtain ⟨xa4, xc4, rfl, hr4⟩ := rdI_own' o4
            have HR4 : Hid (SrcC w4 xa4 Ld.length 1 (Ld.map intV)) := srcI hr4
            clear CLT o4 b4 hr4 HL3
            go_wp2_with (at_builtin; refine wpList_appendQ rfl _ _ rfl W.heap.size vq2 rest rfl HL4.out.q xa4 Ld Ld.length xc4 rfl rfl HR4.out (by omega) HL4.out.le ?_)
            intro vq5 w5 o5 s5 a5 l5 c5
            have HL5 : Hid (LS W w5 W.heap.size gx s (setO HH k { o with count := M }) vq5 (.slice fa3 nf fc3) (rest ++ Ld) (fr ++ [id])) := ls_todo HL4.out (c5.out _ _ HL4.out.bel (Nat.le_refl _)) s5 a5.out vq5 (rest ++ Ld) o5 (by rcases l5.out with e | e; exact .inl e; exact .inr ⟨_, e, Nat.le_refl _⟩)
            have HQ5 : Hid (lenV vq5 = rest.length + Ld.length) := by
              obtain ⟨x1, x2, e1, -⟩ := ownQ_form o5
              show _ = _
              rw [e1]
              show (rest ++ Ld).length = _
              rw [List.length_append]
            clear o5 s5 a5 l5 c5 HL4 HR4
            -- it is gone from the buffer
            have CW : Hid (∀ _ : Unit, _) := fun (_ : Unit) => without_calls w5 s.ba s.bc HH.buffer id (hm_parts HL5.out.m).2.2.1 hb9
            rw [← hkb] at CW
            have X5 := HL5.out.x
            have g5 := X5.cell 2
            simp only [List.getElem?_toArray, List.getElem?_cons_zero, List.getElem?_cons_succ] at g5
            generalize hBf : HH.buffer.filter (fun z => decide (z ≠ id)) = Bf at CW HST2
            clear hBf X5 hkb
            go_wp2_with fail
            refine (CW.out ()).mono ?_
            rintro e w6 ⟨x6, rfl, o6, b6⟩
            obtain ⟨ba6, bc6, rfl, -⟩ := rdI_own' o6
            have hs6 := b6.size
            have HL6 : Hid (LS W (w6.setCell ⟨gx, 2, none⟩ (.slice ba6 Bf.length bc6)) W.heap.size gx { s with ba := ba6, bn := Bf.length, bc := bc6 } { setO HH k { o with count := M } with buffer := Bf } vq5 (.slice fa3 nf fc3) (rest ++ Ld) (fr ++ [id])) :=
              ls_buf HL5.out (HL5.out.bel.trans (b6.mono HL5.out.le)) hs6 (fun i hi _ => b6.block i hi) ba6 Bf.length bc6 Bf rfl (ownI_mono o6 HL5.out.le) (fun g hg => .inr (ownI_lt o6 g hg).1)
            have X6 : Four w6 gx (.slice s.oa s.os.length s.oc) (.slice s.wa s.wn s.wc) (.slice s.ba s.bn s.bc) (.slice s.sa s.sn s.sc) := HL5.out.x.later b6
            have g6 := X6.cell 2
            have f6 := X6.frozen 2
            simp only [List.getElem?_toArray, List.getElem?_cons_zero, List.getElem?_cons_succ] at g6
            have hkl6 : k < ({ setO HH k { o with count := M } with buffer := Bf } : HeapD).objs.length := hkl1
            obtain ⟨nB, hnB⟩ : ∃ nB, Bf.length = nB := ⟨_, rfl⟩
            rw [hnB] at HL6
            have HNB6 : Hid (Bf.length = nB) := hnB
            rw [hnB]
            obtain ⟨Y6, hY6⟩ : ∃ Y6, Y6 = w6.setCell ⟨gx, 2, none⟩ (.slice ba6 nB bc6) := ⟨_, rfl⟩
            rw [← hY6] at HL6
            -- the slot has its generation alone
            obtain ⟨hk6, ob6, fz6⟩ := hm_obj HL6.out.m k hkl6 go HGO.out
            have ob5 := (hm_obj (hm_later HL5.out.m b6) k hkl1 go HGO.out).2.1
            have k1 := ob5.c1
            have HO6 : Hid (({ setO HH k { o with count := M } with buffer := Bf } : HeapD).objs[k] = { o with count := M }) := HO1.out
            rw [HO1.out] at k1
            simp only at k1
            have HL6' : Hid (LS W Y6 W.heap.size gx { s with ba := ba6, bn := nB, bc := bc6 } { setO HH k { o with count := M } with buffer := Bf } vq5 (.slice fa3 nf fc3) (rest ++ Ld) (fr ++ [id])) := HL6.out
            clear o6 b6 CW X6 g5 HL5 hk6 ob6 fz6 ob5 hnB
            go_wp2_with fail
            rw [← hY6]
            clear hY6 g6 f6 k1
            refine (emptyObj_calls o.gen Y6).mono ?_
            rintro e w7 ⟨f7, rfl, o7, b7⟩
            obtain ⟨a7, c7, hv7, -⟩ := rdI_own' o7
            rw [show ([-1, -1, -1] : List Int).length = 3 from rfl] at hv7
            subst hv7
            have HLE : Hid (LS W (setObj w7 go (k * 8) (emptyD o.gen) (.slice a7 3 c7)) W.heap.size gx _ (setO { setO HH k { o with count := M } with buffer := Bf } k (emptyD o.gen)) vq5 (.slice fa3 nf fc3) (rest ++ Ld) (fr ++ [id])) := ls_put HL6'.out b7 k hkl6 go HGO.out (emptyD o.gen) a7 c7 o7
            have HEQ : Hid (setO { setO HH k { o with count := M } with buffer := Bf } k (emptyD o.gen) = { setO HH k (emptyD o.gen) with buffer := Bf }) := by show _ = _; simp [setO]
            rw [HEQ.out] at HLE
            obtain ⟨hk7, ob7, fz7⟩ := hm_obj (hm_later HL6'.out.m b7) k hkl6 go HGO.out
            obtain ⟨v0, e0⟩ := objAt_some ob7 0 (by omega)
            obtain ⟨v1, e1⟩ := objAt_some ob7 1 (by omega)
            obtain ⟨v2, e2⟩ := objAt_some ob7 2 (by omega)
            obtain ⟨v3, e3⟩ := objAt_some ob7 3 (by omega)
            obtain ⟨v4, e4⟩ := objAt_some ob7 4 (by omega)
            obtain ⟨v5, e5⟩ := objAt_some ob7 5 (by omega)
            obtain ⟨v6, e6⟩ := objAt_some ob7 6 (by omega)
            obtain ⟨v7, e7⟩ := objAt_some ob7 7 (by omega)
            have n0 := fz7 0 (by omega)
            have n1 := fz7 1 (by omega)
            have n2 := fz7 2 (by omega)
            have n3 := fz7 3 (by omega)
            have n4 := fz7 4 (by omega)
            have n5 := fz7 5 (by omega)
            have n6 := fz7 6 (by omega)
            have n7 := fz7 7 (by omega)
            rw [Nat.add_zero] at e0 n0
            clear o7 b7 hk7 ob7 fz7 HL6 HL6'
            unfold objV
            go_wp2
            go_step3
            refine ⟨rfl, ⟨gx, _, _, vq5, .slice fa3 nf fc3, rest ++ Ld, fr ++ [id], HLE.out, HST2.out, _, _, _, _, _, _, _, _, _, _, _, _, _, _, _, _, _, _, _, _, _, _, _, _, _, _, _, _, _, _, _, _, _, _, _, _, _, _, _, _, _, _, _, _, _, _, _, _, _, _, _, _, _, _, _, _, _, _, _, _, _, _, _, _, _, _, rfl⟩, ?_⟩
            show lenV vq5 + (9 - nf) * 1048577 < (0 + 1) + (9 - fr.length) * 1048577
            rw [HQ5.out, HNF.out, Hm.out]
            omega
        · have HST2 : Hid (ToR R HH rest fr) := by
            have h := HST.out
            rw [step_dead (by omega)] at h
            exact h
          have CL : Hid (∀ Y : LaterW X, _) := fun Y => CN.out Y (slotZ HH id) (.inl (by omega))
          generalize slotZ HH id = z at CS CL
          clear CN HML
          refine wp_region_later X (Below.refl _ _) (by kernel_rfl) (by kernel_rfl) ?_
          repeat (go_big_quiet_step (first
            | (go_at_call 44; refine (CS.out _).mono ?_; rintro e w2 ⟨rfl, b2⟩; exact ⟨rfl, LaterW.step _ b2⟩)
            | (go_at_call 43; refine (CL.out _).mono ?_; rintro e w2 ⟨rfl, b2⟩; exact ⟨rfl, LaterW.step _ b2⟩)))
          refine wpQuiet_nil ?_
          intro Y hYe
          have hY : Below X.heap.size X Y := by obtain ⟨n, hn⟩ := hYe; rw [hn]; exact n.bel
          clear hYe y0 y1 y2 y3 hne CS CL HXF
          go_wp2
          go_step3
          refine ⟨rfl, ⟨gx, s, HH, vq2, .slice fa fr.length fc, rest, fr, ls_later HL2.out hY, HST2.out, _, _, _, _, _, _, _, _, _, _, _, _, _, _, _, _, _, _, _, _, _, _, _, _, _, _, _, _, _, _, _, _, _, _, _, _, _, _, _, _, _, _, _, _, _, _, _, _, _, _, _, _, _, _, _, _, _, _, _, _, _, _, _, _, _, _, rfl⟩, ?_⟩
          show lenV vq2 + (9 - lenV (.slice fa fr.length fc)) * 1048577 < (0 + 1) + (9 - fr.length) * 1048577
          rw [HLQ.out]
          simp only [lenV]
          omega
      ·
        go_wp2
        obtain ⟨vq2, hvq⟩ : ∃ v, v = Value.slice (some ⟨g, off + 1, none⟩) m c := ⟨_, rfl⟩
        have HL2 : Hid (LS W X W.heap.size gx s HH vq2 (.slice fa fr.length fc) rest fr) := by rw [hvq]; exact HPOP.out _ (HPOS.out (by omega)) rfl
        have HLQ : Hid (lenV vq2 = m) := by rw [hvq]; rfl
        rw [← hvq]
        clear hvq HPOP HPOS HZERO hcell hb1 hb2
        by_cases hk : 0 ≤ slotZ HH id
        · obtain ⟨k, hkl, ek, hk8, hlv, -⟩ := slotZ_yes HH id hk
          obtain ⟨go, hgo, hgB, hgl⟩ := hm_own HML.out k hkl
          obtain ⟨hk2, hob, hfz⟩ := hm_obj HML.out k hkl go hgo
          have hgg : go ≠ gx := fun e => HL2.out.sx (by rw [← e]; exact .inl ⟨_, hgo, rfl⟩)
          have hgg1 : ¬ go = gx := hgg
          have hgg2 : ¬ gx = go := fun e => hgg e.symm
          rw [ek, hgo] at CS
          rw [hgo] at y0
          have CL : Hid (∀ Y : LaterW X, _) := fun Y => liveIn_at k s.os.length s.oc Y.on go s.wa s.wn s.wc s.ba s.bn s.bc s.sa s.sn s.sc ((Y.bel.cell (p := ⟨go, k * 8, none⟩) hgl).trans (hob.c0.trans (by rw [hlv]))) (by rw [HML.out.lo]; exact hol) hk8 hk2
          have HGO : Hid (s.oa = some ⟨go, 0, none⟩) := hgo
          have HSA : Hid (stepD HH id rest fr = _) := step_at (rest := rest) (fr := fr) hkl ek
          obtain ⟨o, ho⟩ : ∃ o, HH.objs[k] = o := ⟨_, rfl⟩
          rw [ho] at HSA
          have HOO : Hid (HH.objs[k] = o) := ho
          have hofl : o.field.length ≤ 1048576 := by rw [← ho]; exact HOKF.out _ (List.getElem_mem hkl)
          obtain ⟨M, hM⟩ : ∃ M, wrap64 (o.count - 1) = M := ⟨_, rfl⟩
          rw [hM] at HSA
          clear hgo hob hfz hlv ho CN hk ek HML
          refine wp_region_later X (Below.refl _ _) (by kernel_rfl) (by kernel_rfl) ?_
          repeat (go_big_quiet_step (first
            | (go_at_call 44; refine (CS.out _).mono ?_; rintro e w2 ⟨rfl, b2⟩; exact ⟨rfl, LaterW.step _ b2⟩)
            | (go_at_call 43; refine (CL.out _).mono ?_; rintro e w2 ⟨rfl, b2⟩; exact ⟨rfl, LaterW.step _ b2⟩)))
          refine wpQuiet_nil ?_
          intro Y hYe
          have hY : Below X.heap.size X Y := by obtain ⟨n, hn⟩ := hYe; rw [hn]; exact n.bel
          clear hYe y0 y1 y2 y3 hne CS CL HXF
          have HLY : Hid (LS W Y W.heap.size gx s HH vq2 (.slice fa fr.length fc) rest fr) := ls_later HL2.out hY
          obtain ⟨hkY, obY, fzY⟩ := hm_obj HLY.out.m k hkl go HGO.out
          have k5 := obY.c5
          rw [HOO.out] at k5
          have z5 := fzY 5 (by omega)
          have HL1 : Hid (LS W (Y.setCell ⟨go, k * 8 + 5, none⟩ (.int .i64 M)) W.heap.size gx s (setO HH k { o with count := M }) vq2 (.slice fa fr.length fc) rest fr) := by
            have h1 := hm_count HLY.out.m k hkl go HGO.out M
            rw [HOO.out] at h1
            exact ls_obj HLY.out go _ _ HGO.out h1
          have g2 := HLY.out.x.cell 2
          simp only [List.getElem?_toArray, List.getElem?_cons_zero, List.getElem?_cons_succ] at g2
          have hkl1 : k < (setO HH k { o with count := M }).objs.length := by simpa [setO] using hkl
          have HO1 : Hid ((setO HH k { o with count := M }).objs[k] = { o with count := M }) := by show _ = _; simp [setO]
          obtain ⟨Y1, hY1⟩ : ∃ Y1, Y1 = Y.setCell ⟨go, k * 8 + 5, none⟩ (.int .i64 M) := ⟨_, rfl⟩
          have hYl := HLY.out.le
          have hY1s : Y1.heap.size = Y.heap.size := by rw [hY1]; simp [World.setCell]
          rw [← hY1] at HL1
          clear obY fzY HL2 HLY hY hkY
          by_cases hM0 : 0 < M
          · obtain ⟨hkZ, ob1, fz1⟩ := hm_obj HL1.out.m k hkl1 go HGO.out
            have k7 := ob1.c7
            rw [HO1.out] at k7
            have HK7 : Hid (Y1.cell? ⟨go, k * 8 + 7, none⟩ = some (.bool o.purple)) := k7
            have HZ7 : Hid (Y1.frozen? ⟨go, k * 8 + 7, none⟩ = false) := fz1 7 (by omega)
            clear k7 ob1 fz1 hkZ
            by_cases hp : o.purple = true
            · have HST2 : Hid (ToR R (setO HH k { o with count := M }) rest fr) := by
                have h := HST.out
                rw [HSA.out, if_pos hM0, if_pos hp] at h
                exact h
              have HX1 : Hid (Y1.cell? ⟨gx, 2, none⟩ = some (.slice s.ba s.bn s.bc) ∧ Y1.frozen? ⟨gx, 2, none⟩ = false) := ⟨HL1.out.x.cell 2, HL1.out.x.frozen 2⟩
              go_wp2_with fail
              rw [← hY1]
              clear hY1 k5 z5 g2
              refine (suspect_no Y1 _ go (k * 8) id (by rw [HK7.out, hp])).mono ?_
              rintro e w2 ⟨rfl, hw2⟩
              subst hw2
              obtain ⟨x2, f2⟩ := HX1.out
              go_wp2
              go_step3
              refine ⟨rfl, ⟨gx, _, _, vq2, .slice fa fr.length fc, rest, fr, ls_buf HL1.out HL1.out.bel (Nat.le_refl _) (fun _ _ _ => rfl) s.ba s.bn s.bc HH.buffer HL1.out.m.lb HL1.out.m.b (fun g hg => .inl hg), HST2.out, _, _, _, _, _, _, _, _, _, _, _, _, _, _, _, _, _, _, _, _, _, _, _, _, _, _, _, _, _, _, _, _, _, _, _, _, _, _, _, _, _, _, _, _, _, _, _, _, _, _, _, _, _, _, _, _, _, _, _, _, _, _, _, _, _, _, rfl⟩, ?_⟩
              show lenV vq2 + (9 - lenV (.slice fa fr.length fc)) * 1048577 < (m + 1) + (9 - fr.length) * 1048577
              rw [HLQ.out]
              simp only [lenV]
              omega
            · have hpf : o.purple = false := by simpa using hp
              have HST2 : Hid (ToR R { setO HH k { o with count := M, purple := true } with buffer := HH.buffer ++ [id] } rest fr) := by
                have h := HST.out
                rw [HSA.out, if_pos hM0, if_neg hp] at h
                exact h
              have HLP : Hid (LS W (Y1.setCell ⟨go, k * 8 + 7, none⟩ (.bool true)) W.heap.size gx s (setO HH k { o with count := M, purple := true }) vq2 (.slice fa fr.length fc) rest fr) := by
                have h1 := hm_purple HL1.out.m k hkl1 go HGO.out true
                rw [HO1.out] at h1
                have h2 := ls_obj HL1.out go _ _ HGO.out h1
                have e : ({ setO HH k { o with count := M } with objs := (setO HH k { o with count := M }).objs.set k { o with count := M, purple := true } } : HeapD) = setO HH k { o with count := M, purple := true } := by simp [setO]
                rw [e] at h2
                exact h2
              have hb9 : HH.buffer.length ≤ 16777215 := by have := HBUF.out; omega
              have HSU : Hid (∀ _ : Unit, _) := fun (_ : Unit) => suspect_yes Y1 W.heap.size (.slice s.ba s.bn s.bc) go (k * 8) id HH.buffer (by rw [HK7.out, hpf]) HZ7.out HL1.out.m.b (fun e => by
                obtain ⟨x, hx, e2⟩ := own_some e
                exact HL1.out.m.sep.ob _ x HGO.out hx e2.symm) hb9 (by omega)
              go_wp2_with fail
              rw [← hY1]
              clear hY1 k5 z5 g2
              refine (HSU.out ()).mono ?_
              rintro e w2 ⟨v2, rfl, o2, s2, a2, l2, c2⟩
              obtain ⟨ba2, bc2, hv2, -⟩ := rdI_own' o2
              obtain ⟨nb, hnb⟩ : ∃ nb, (HH.buffer ++ [id]).length = nb := ⟨_, rfl⟩
              rw [hnb] at hv2
              subst hv2
              have HNB : Hid ((HH.buffer ++ [id]).length = nb) := hnb
              clear hnb
              have hx2 : w2.heap[gx]? = (Y1.setCell ⟨go, k * 8 + 7, none⟩ (.bool true)).heap[gx]? := a2 gx HL1.out.x.lt (fun e => by
                obtain ⟨x, hx, e2⟩ := own_some e
                exact HL1.out.sx (by rw [← e2]; exact .inr (.inr (.inl ⟨x, hx, rfl⟩))))
              have X2 := HLP.out.x.same hx2
              have x2 := X2.cell 2
              have f2 := X2.frozen 2
              simp only [List.getElem?_toArray, List.getElem?_cons_zero, List.getElem?_cons_succ] at x2
              have HLN : Hid (LS W (w2.setCell ⟨gx, 2, none⟩ (.slice ba2 nb bc2)) W.heap.size gx _ { setO HH k { o with count := M, purple := true } with buffer := HH.buffer ++ [id] } vq2 (.slice fa fr.length fc) rest fr) :=
                ls_buf HLP.out (c2 _ _ HLP.out.bel (Nat.le_refl _)) (by simp only [World.setCell, Array.size_modify]; exact s2) (fun i hi hne => a2 i (by simpa [World.setCell] using hi) hne) ba2 nb bc2 (HH.buffer ++ [id]) HNB.out.symm o2 (fun g hg => by
                  rcases l2 with e | ⟨g', e, h'⟩
                  · exact .inl (by rw [← e]; exact hg)
                  · rw [e] at hg; injection hg with hg; exact .inr (by simp only [World.setCell, Array.size_modify]; omega))
              clear o2 s2 a2 l2 c2 X2 hx2
              go_wp2
              go_step3
              refine ⟨rfl, ⟨gx, _, _, vq2, .slice fa fr.length fc, rest, fr, HLN.out, HST2.out, _, _, _, _, _, _, _, _, _, _, _, _, _, _, _, _, _, _, _, _, _, _, _, _, _, _, _, _, _, _, _, _, _, _, _, _, _, _, _, _, _, _, _, _, _, _, _, _, _, _, _, _, _, _, _, _, _, _, _, _, _, _, _, _, _, _, rfl⟩, ?_⟩
              show lenV vq2 + (9 - lenV (.slice fa fr.length fc)) * 1048577 < (m + 1) + (9 - fr.length) * 1048577
              rw [HLQ.out]
              simp only [lenV]
              omega
          · have HST2 : Hid (ToR R { setO HH k (emptyD o.gen) with buffer := HH.buffer.filter (fun z => decide (z ≠ id)) } (rest ++ o.field.filter (fun z => decide (0 ≤ z))) (fr ++ [id])) := by
              have h := HST.out
              rw [HSA.out, if_neg hM0] at h
              exact h
            have hkb : s.bn = HH.buffer.length := HL1.out.m.lb
            have HKB : Hid (s.bn = HH.buffer.length) := hkb
            have hb9 : HH.buffer.length ≤ 16777215 := by have := HBUF.out; omega
            have hrl : rest.length ≤ 11534345 := by have h1 := HBUF.out; have h2 := HMU.out; omega
            -- the id is freed
            obtain ⟨Y2, hY2⟩ : ∃ Y2, Y2 = Y1.alloc (.cells #[.int .i64 id] 3) := ⟨_, rfl⟩
            have BY2 : Below Y1.heap.size Y1 Y2 := by rw [hY2]; exact (Below.refl _ _).alloc (Nat.le_refl _) _
            have hY2s : Y2.heap.size = Y.heap.size + 1 := by rw [hY2, ← hY1s]; simp
            have HC2 : Hid (Y2.cell? ⟨Y.heap.size, 0, none⟩ = some (.int .i64 id)) := by show _ = _; rw [hY2, ← hY1s, World.cell?_alloc_mark]; rfl
            have HLA : Hid (LS W Y2 W.heap.size gx s (setO HH k { o with count := M }) vq2 (.slice fa fr.length fc) rest fr) := ls_later HL1.out BY2
            clear BY2 hWs hY2s hY1s
            go_wp2_with (at_builtin; rw [← hY1, ← hY2]; clear hY1 hY2; refine wpList_appendL rfl _ _ rfl W.heap.size (.slice fa fr.length fc) fr rfl HLA.out.f ⟨Y.heap.size, 0, none⟩ id rfl HC2.out (by omega) HLA.out.le ?_)
            intro vf3 w3 o3 s3 a3 l3 c3
            have HL3 : Hid (LS W w3 W.heap.size gx s (setO HH k { o with count := M }) vq2 vf3 rest (fr ++ [id])) := ls_fr HLA.out (c3.out _ _ HLA.out.bel (Nat.le_refl _)) s3 a3.out vf3 (fr ++ [id]) o3 (by rcases l3.out with e | e; exact .inl e; exact .inr ⟨_, e, Nat.le_refl _⟩)
            obtain ⟨fa3, fc3, hv3, -⟩ := rdI_own' o3
            obtain ⟨nf, hnf⟩ : ∃ nf, (fr ++ [id]).length = nf := ⟨_, rfl⟩
            rw [hnf] at hv3
            have HNF : Hid (nf = fr.length + 1) := by show _ = _; rw [← hnf]; simp
            subst hv3
            clear o3 s3 a3 l3 c3 hnf k5 z5 g2 HLA HC2 HL1
            -- what it led to waits
            obtain ⟨hk3, ob3, fz3⟩ := hm_obj HL3.out.m k hkl1 go HGO.out
            obtain ⟨hn3, hown3⟩ := HL3.out.m.f k hkl1 hk3
            have c6 := ob3.c6
            rw [HO1.out] at hn3 hown3
            simp only at hn3 hown3
            rw [hn3] at c6 hown3
            obtain ⟨fo, co6, hfo⟩ : ∃ fo co6, Value.slice s.os[k].f o.field.length s.os[k].c = .slice fo o.field.length co6 ∧ RdI w3 fo o.field := by
              obtain ⟨x1, x2, e1, e2⟩ := rdI_own' hown3
              exact ⟨x1, x2, e1, e2⟩
            rw [hfo.1] at c6
            have CLT : Hid (∀ _ : Unit, _) := fun (_ : Unit) => leadsTo_calls w3 go (k * 8) fo co6 o.field c6 hfo.2 hofl
            have hflt : (o.field.filter (fun z => decide (0 ≤ z))).length ≤ 1048576 := Nat.le_trans (List.length_filter_le _ _) hofl
            clear hk3 ob3 fz3 hn3 hown3 c6 hfo
            generalize hLd : o.field.filter (fun z => decide (0 ≤ z)) = Ld at CLT HST2 hflt
            clear hLd
            go_wp2_with fail
            refine (CLT.out ()).mono ?_
            rintro e w4 ⟨x4, rfl, o4, b4⟩
            have HL4 : Hid (LS W w4 W.heap.size gx s (setO HH k { o with count := M }) vq2 (.slice fa3 nf fc3) rest (fr ++ [id])) := ls_later HL3.out b4
            obtain ⟨xa4, xc4, rfl, hr4⟩ := rdI_own' o4
            have HR4 : Hid (SrcC w4 xa4 Ld.length 1 (Ld.map intV)) := srcI hr4
            clear CLT o4 b4 hr4 HL3
            go_wp2_with (at_builtin; refine wpList_appendQ rfl _ _ rfl W.heap.size vq2 rest rfl HL4.out.q xa4 Ld Ld.length xc4 rfl rfl HR4.out (by omega) HL4.out.le ?_)
            intro vq5 w5 o5 s5 a5 l5 c5
            have HL5 : Hid (LS W w5 W.heap.size gx s (setO HH k { o with count := M }) vq5 (.slice fa3 nf fc3) (rest ++ Ld) (fr ++ [id])) := ls_todo HL4.out (c5.out _ _ HL4.out.bel (Nat.le_refl _)) s5 a5.out vq5 (rest ++ Ld) o5 (by rcases l5.out with e | e; exact .inl e; exact .inr ⟨_, e, Nat.le_refl _⟩)
            have HQ5 : Hid (lenV vq5 = rest.length + Ld.length) := by
              obtain ⟨x1, x2, e1, -⟩ := ownQ_form o5
              show _ = _
              rw [e1]
              show (rest ++ Ld).length = _
              rw [List.length_append]
            clear o5 s5 a5 l5 c5 HL4 HR4
            -- it is gone from the buffer
            have CW : Hid (∀ _ : Unit, _) := fun (_ : Unit) => without_calls w5 s.ba s.bc HH.buffer id (hm_parts HL5.out.m).2.2.1 hb9
            rw [← hkb] at CW
            have X5 := HL5.out.x
            have g5 := X5.cell 2
            simp only [List.getElem?_toArray, List.getElem?_cons_zero, List.getElem?_cons_succ] at g5
            generalize hBf : HH.buffer.filter (fun z => decide (z ≠ id)) = Bf at CW HST2
            clear hBf X5 hkb
            go_wp2_with fail
            refine (CW.out ()).mono ?_
            rintro e w6 ⟨x6, rfl, o6, b6⟩
            obtain ⟨ba6, bc6, rfl, -⟩ := rdI_own' o6
            have hs6 := b6.size
            have HL6 : Hid (LS W (w6.setCell ⟨gx, 2, none⟩ (.slice ba6 Bf.length bc6)) W.heap.size gx { s with ba := ba6, bn := Bf.length, bc := bc6 } { setO HH k { o with count := M } with buffer := Bf } vq5 (.slice fa3 nf fc3) (rest ++ Ld) (fr ++ [id])) :=
              ls_buf HL5.out (HL5.out.bel.trans (b6.mono HL5.out.le)) hs6 (fun i hi _ => b6.block i hi) ba6 Bf.length bc6 Bf rfl (ownI_mono o6 HL5.out.le) (fun g hg => .inr (ownI_lt o6 g hg).1)
            have X6 : Four w6 gx (.slice s.oa s.os.length s.oc) (.slice s.wa s.wn s.wc) (.slice s.ba s.bn s.bc) (.slice s.sa s.sn s.sc) := HL5.out.x.later b6
            have g6 := X6.cell 2
            have f6 := X6.frozen 2
            simp only [List.getElem?_toArray, List.getElem?_cons_zero, List.getElem?_cons_succ] at g6
            have hkl6 : k < ({ setO HH k { o with count := M } with buffer := Bf } : HeapD).objs.length := hkl1
            obtain ⟨nB, hnB⟩ : ∃ nB, Bf.length = nB := ⟨_, rfl⟩
            rw [hnB] at HL6
            have HNB6 : Hid (Bf.length = nB) := hnB
            rw [hnB]
            obtain ⟨Y6, hY6⟩ : ∃ Y6, Y6 = w6.setCell ⟨gx, 2, none⟩ (.slice ba6 nB bc6) := ⟨_, rfl⟩
            rw [← hY6] at HL6
            -- the slot has its generation alone
            obtain ⟨hk6, ob6, fz6⟩ := hm_obj HL6.out.m k hkl6 go HGO.out
            have ob5 := (hm_obj (hm_later HL5.out.m b6) k hkl1 go HGO.out).2.1
            have k1 := ob5.c1
            have HO6 : Hid (({ setO HH k { o with count := M } with buffer := Bf } : HeapD).objs[k] = { o with count := M }) := HO1.out
            rw [HO1.out] at k1
            simp only at k1
            have HL6' : Hid (LS W Y6 W.heap.size gx { s with ba := ba6, bn := nB, bc := bc6 } { setO HH k { o with count := M } with buffer := Bf } vq5 (.slice fa3 nf fc3) (rest ++ Ld) (fr ++ [id])) := HL6.out
            clear o6 b6 CW X6 g5 HL5 hk6 ob6 fz6 ob5 hnB
            go_wp2_with fail
            rw [← hY6]
            clear hY6 g6 f6 k1
            refine (emptyObj_calls o.gen Y6).mono ?_
            rintro e w7 ⟨f7, rfl, o7, b7⟩
            obtain ⟨a7, c7, hv7, -⟩ := rdI_own' o7
            rw [show ([-1, -1, -1] : List Int).length = 3 from rfl] at hv7
            subst hv7
            have HLE : Hid (LS W (setObj w7 go (k * 8) (emptyD o.gen) (.slice a7 3 c7)) W.heap.size gx _ (setO { setO HH k { o with count := M } with buffer := Bf } k (emptyD o.gen)) vq5 (.slice fa3 nf fc3) (rest ++ Ld) (fr ++ [id])) := ls_put HL6'.out b7 k hkl6 go HGO.out (emptyD o.gen) a7 c7 o7
            have HEQ : Hid (setO { setO HH k { o with count := M } with buffer := Bf } k (emptyD o.gen) = { setO HH k (emptyD o.gen) with buffer := Bf }) := by show _ = _; simp [setO]
            rw [HEQ.out] at HLE
            obtain ⟨hk7, ob7, fz7⟩ := hm_obj (hm_later HL6'.out.m b7) k hkl6 go HGO.out
            obtain ⟨v0, e0⟩ := objAt_some ob7 0 (by omega)
            obtain ⟨v1, e1⟩ := objAt_some ob7 1 (by omega)
            obtain ⟨v2, e2⟩ := objAt_some ob7 2 (by omega)
            obtain ⟨v3, e3⟩ := objAt_some ob7 3 (by omega)
            obtain ⟨v4, e4⟩ := objAt_some ob7 4 (by omega)
            obtain ⟨v5, e5⟩ := objAt_some ob7 5 (by omega)
            obtain ⟨v6, e6⟩ := objAt_some ob7 6 (by omega)
            obtain ⟨v7, e7⟩ := objAt_some ob7 7 (by omega)
            have n0 := fz7 0 (by omega)
            have n1 := fz7 1 (by omega)
            have n2 := fz7 2 (by omega)
            have n3 := fz7 3 (by omega)
            have n4 := fz7 4 (by omega)
            have n5 := fz7 5 (by omega)
            have n6 := fz7 6 (by omega)
            have n7 := fz7 7 (by omega)
            rw [Nat.add_zero] at e0 n0
            clear o7 b7 hk7 ob7 fz7 HL6 HL6'
            unfold objV
            go_wp2
            go_step3
            refine ⟨rfl, ⟨gx, _, _, vq5, .slice fa3 nf fc3, rest ++ Ld, fr ++ [id], HLE.out, HST2.out, _, _, _, _, _, _, _, _, _, _, _, _, _, _, _, _, _, _, _, _, _, _, _, _, _, _, _, _, _, _, _, _, _, _, _, _, _, _, _, _, _, _, _, _, _, _, _, _, _, _, _, _, _, _, _, _, _, _, _, _, _, _, _, _, _, _, rfl⟩, ?_⟩
            show lenV vq5 + (9 - nf) * 1048577 < (m + 1) + (9 - fr.length) * 1048577
            rw [HQ5.out, HNF.out, Hm.out]
            omega
        · have HST2 : Hid (ToR R HH rest fr) := by
            have h := HST.out
            rw [step_dead (by omega)] at h
            exact h
          have CL : Hid (∀ Y : LaterW X, _) := fun Y => CN.out Y (slotZ HH id) (.inl (by omega))
          generalize slotZ HH id = z at CS CL
          clear CN HML
          refine wp_region_later X (Below.refl _ _) (by kernel_rfl) (by kernel_rfl) ?_
          repeat (go_big_quiet_step (first
            | (go_at_call 44; refine (CS.out _).mono ?_; rintro e w2 ⟨rfl, b2⟩; exact ⟨rfl, LaterW.step _ b2⟩)
            | (go_at_call 43; refine (CL.out _).mono ?_; rintro e w2 ⟨rfl, b2⟩; exact ⟨rfl, LaterW.step _ b2⟩)))
          refine wpQuiet_nil ?_
          intro Y hYe
          have hY : Below X.heap.size X Y := by obtain ⟨n, hn⟩ := hYe; rw [hn]; exact n.bel
          clear hYe y0 y1 y2 y3 hne CS CL HXF
          go_wp2
          go_step3
          refine ⟨rfl, ⟨gx, s, HH, vq2, .slice fa fr.length fc, rest, fr, ls_later HL2.out hY, HST2.out, _, _, _, _, _, _, _, _, _, _, _, _, _, _, _, _, _, _, _, _, _, _, _, _, _, _, _, _, _, _, _, _, _, _, _, _, _, _, _, _, _, _, _, _, _, _, _, _, _, _, _, _, _, _, _, _, _, _, _, _, _, _, _, _, _, _, rfl⟩, ?_⟩
          show lenV vq2 + (9 - lenV (.slice fa fr.length fc)) * 1048577 < (m + 1) + (9 - fr.length) * 1048577
          rw [HLQ.out]
          simp only [lenV]
          omega

end Go.Proofs.Ytjhdnachbahbmaa
