/- What impl.GraphOf makes: the graph in memory of its own. -/
import Derived.Test.YtjihbmkhifnblaaSGraphOf
import Derived.Test.YtjihbmkhifnblaaICopyWalks
namespace Go.Proofs.Ytjihbmkhifnblaa
open Go.RowKit
set_option linter.unusedVariables false
set_option maxRecDepth 100000

theorem nodeOf_calls (o : ObjD) (f : Option Addr) (fc : Nat) (w : World) :
    Calls Try.prog 46 #[objV o (.slice f o.field.length fc)] w fun e w' => e = .returned (.agg #[.bool o.live, .int .i64 o.gen, .int .i64 o.site, .int .i64 o.holds, .int .i64 o.roots, .slice f o.field.length fc]) ∧ Below w.heap.size w w' := by
  unfold objV
  generalize o.live = d0
  generalize o.gen = d1
  generalize o.site = d2
  generalize o.holds = d3
  generalize o.roots = d4
  generalize o.count = d5
  generalize o.purple = d7
  generalize o.field.length = n
  go_enter Try.func46, Try.ntmps46
  go_wp2
  refine bodyPost_ret (v := .agg #[.bool d0, .int .i64 d1, .int .i64 d2, .int .i64 d3, .int .i64 d4, .slice f n fc]) (by simp [results, Try.results46, go_sem, *]) rfl ⟨rfl, ?_⟩
  repeat (refine Below.setCell ?_ (by simp) _)
  first
    | exact ((Below.refl _ _).alloc (Nat.le_refl _) _).alloc (by simp) _
    | exact (((Below.refl _ _).alloc (Nat.le_refl _) _).alloc (by simp) _).alloc (by simp; omega) _
theorem opLoadObj {t i : Tmp} {ty : TypeId} {pos : String} {af : Array Edge} {a : Act} {X : World} {K : Act → World → Prop} {Q : Exit → Act → World → Prop} {b : Nat} {o : ObjD} {fv : Value} (h1 : a.eval (.tmp i) = .pointer (some ⟨b, 0, none⟩)) (hb : OBx X b o fv) (hK : K (a.put (some t) (objV o fv)) X) :
    Oper.wp Try.prog ⟨some t, .load 73 (.tmp i), ty, pos, af, none⟩ a X K Q := by
  have e1 := ev_tmp h1
  have c0 := hb.cell 0
  have c1 := hb.cell 1
  have c2 := hb.cell 2
  have c3 := hb.cell 3
  have c4 := hb.cell 4
  have c5 := hb.cell 5
  have c6 := hb.cell 6
  have c7 := hb.cell 7
  simp only [List.getElem?_toArray, List.getElem?_cons_zero, List.getElem?_cons_succ] at c0 c1 c2 c3 c4 c5 c6 c7
  unfold objV at hK
  clear hb
  go_simp; exact hK
theorem opNodeOf {t i : Tmp} {ty : TypeId} {pos : String} {af : Array Edge} {ats : Array TypeId} {a : Act} {X : World} {K : Act → World → Prop} {Q : Exit → Act → World → Prop} {u : Value} {post : Ending → World → Prop} (h1 : a.eval (.tmp i) = u) (hC : Calls Try.prog 46 #[u] X post) (hK : ∀ e w', post e w' → ∃ x, e = .returned x ∧ K (a.put (some t) x) w') :
    Oper.wp Try.prog ⟨some t, .call { callee := .value (.func 46), args := #[.tmp i], argTypes := ats }, ty, pos, af, none⟩ a X K Q := by
  have e1 := ev_tmp h1
  go_simp
  refine hC.mono (fun e w' hp => ?_)
  obtain ⟨x, rfl, hx⟩ := hK e w' hp
  exact hx

/-- What each operation of a round yields; vs: blocks from there on are the round's own. -/
def RI (W V : World) (B g b vs : Nat) (o : ObjD) (f : Option Addr) (fc : Nat) (vo : Value) (G : GrD) (wa : Option Addr) (wc : Nat) (sa : Option Addr) (sc : Nat) (fs : List OSh) (j : Nat) : Nat → World → Value → Prop
  | 0, X, v => v = .pointer (some ⟨g, 0, none⟩)
  | 1, X, v => v = vo
  | 2, X, v => v = objV o (.slice f o.field.length fc)
  | 3, X, v => v = .agg #[.bool o.live, .int .i64 o.gen, .int .i64 o.site, .int .i64 o.holds, .int .i64 o.roots, .slice f o.field.length fc]
  | 4, X, v => ∃ q, v = .slice (some ⟨q, 0, none⟩) 1 1 ∧ vs ≤ q ∧ NBx X q (ndOf o) (.slice f o.field.length fc)
  | 5, X, v => CG W X B g G v wa wc sa sc (fs ++ [⟨f, o.field.length, fc⟩]) (j + 1) ∧ ∀ k, v.ownBlock = some k → V.heap.size ≤ k
  | 6, X, v => v = .pointer (some ⟨g, 0, none⟩)
  | _, _, _ => True
theorem ri_same {W V X Y : World} {B g b vs : Nat} {o : ObjD} {f : Option Addr} {fc : Nat} {vo : Value} {G : GrD} {wa : Option Addr} {wc : Nat} {sa : Option Addr} {sc : Nat} {fs : List OSh} {j : Nat} (i : Nat) (hi : i ≠ 5) (v : Value) (h : RI W V B g b vs o f fc vo G wa wc sa sc fs j i X v) (hk : ∀ k, vs ≤ k → k < X.heap.size → Y.heap[k]? = X.heap[k]?) : RI W V B g b vs o f fc vo G wa wc sa sc fs j i Y v := by
  match i, h with
  | 0, h => exact h
  | 1, h => exact h
  | 2, h => exact h
  | 3, h => exact h
  | 4, ⟨q, h1, h2, h3⟩ => exact ⟨q, h1, h2, (hk q h2 (Array.getElem?_eq_some_iff.1 h3).1).trans h3⟩
  | 5, _ => exact absurd rfl hi
  | 6, h => exact h
  | n + 7, _ => exact trivial
theorem ri_mono {W V X Y : World} {B g b vs : Nat} {o : ObjD} {f : Option Addr} {fc : Nat} {vo : Value} {G : GrD} {wa : Option Addr} {wc : Nat} {sa : Option Addr} {sc : Nat} {fs : List OSh} {j : Nat} (i : Nat) (v : Value) (h : RI W V B g b vs o f fc vo G wa wc sa sc fs j i X v) (hb : Below X.heap.size X Y) (hB : B ≤ X.heap.size) : RI W V B g b vs o f fc vo G wa wc sa sc fs j i Y v := by
  by_cases hi : i = 5
  · subst hi
    exact ⟨cg_later h.1 hB hb, h.2⟩
  · exact ri_same i hi v h (fun k _ hl => hb.block k hl)

set_option maxHeartbeats 4000000 in
theorem iGraphOf_calls (v : Value) (H : HeapD) (w : World) (h : RdH w v H) (hs : SmallH H) :
    Calls Try.prog 18 #[v] w fun e w' => ∃ s : GSh, e = .returned s.v ∧ MemG w' w.heap.size s (grOf H) ∧ Below w.heap.size w w' := by
  have CC : Hid (∀ X, Below w.heap.size w X → _) := fun X hX => iCopy_calls v H X (rdH_later h hX) hs
  obtain ⟨ao, co, aw, cw, ab, cb, sa0, sc0, rfl, -⟩ := h
  have l0 := hs.objs
  have l1 := hs.weaks
  have l3 := hs.sites
  obtain ⟨W, hW⟩ : ∃ W, W = (w.alloc (.cells #[.slice ao H.objs.length co, .slice aw H.weaks.length cw, .slice ab H.buffer.length cb, .slice sa0 H.sites.length sc0] 47)).alloc (.cells #[.slice none 0 0, .slice none 0 0, .slice none 0 0] 26) := ⟨_, rfl⟩
  have BW : Below w.heap.size w W := by rw [hW]; exact ((Below.refl _ _).alloc (Nat.le_refl _) _).alloc (by simp) _
  have hWs : W.heap.size = w.heap.size + 2 := by rw [hW]; simp
  have HFR : Hid (Tri W (w.heap.size + 1) (.slice none 0 0) (.slice none 0 0) (.slice none 0 0)) := by
    rw [hW]
    have f1 := Tri.new (w.alloc (.cells #[.slice ao H.objs.length co, .slice aw H.weaks.length cw, .slice ab H.buffer.length cb, .slice sa0 H.sites.length sc0] 47)) (.slice none 0 0) (.slice none 0 0) (.slice none 0 0)
    have e : (w.alloc (.cells #[.slice ao H.objs.length co, .slice aw H.weaks.length cw, .slice ab H.buffer.length cb, .slice sa0 H.sites.length sc0] 47)).heap.size = w.heap.size + 1 := by simp
    rw [e] at f1
    exact f1
  have HFL : Hid (∀ z ∈ H.objs, z.field.length ≤ 1048576) := hs.fields
  have HBW : Hid (Below w.heap.size w W) := BW
  have HGL : Hid ((grOf H).nodes.length = H.objs.length) := by show _ = _; simp [grOf]
  clear hs
  go_enter Try.func18, Try.ntmps18
  go_wp2_with fail
  rw [← hW]
  clear hW
  refine (CC.out _ BW).mono ?_
  rintro e w1 ⟨⟨oa, oc, os, wa, wn, wc, ba, bn, bc, sa, sn, sc⟩, rfl, M1, b1⟩
  have ho := M1.lo
  have hw := M1.lw
  have hsn := M1.ls
  simp only at ho hw hsn
  subst hw hsn
  have hb1 := b1.size
  obtain ⟨V, hV⟩ : ∃ V, V = w1.alloc (.cells #[.slice oa os.length oc, .slice wa H.weaks.length wc, .slice ba bn bc, .slice sa H.sites.length sc] 47) := ⟨_, rfl⟩
  have BV : Below w1.heap.size w1 V := by rw [hV]; exact (Below.refl _ _).alloc (Nat.le_refl _) _
  obtain ⟨V2, hV2⟩ : ∃ V2, V2 = V.alloc (.cells #[.slice none 0 0, .slice wa H.weaks.length wc, .slice sa H.sites.length sc] 26) := ⟨_, rfl⟩
  have BV2 : Below V.heap.size V V2 := by rw [hV2]; exact (Below.refl _ _).alloc (Nat.le_refl _) _
  have hVs : V.heap.size = w1.heap.size + 1 := by rw [hV]; simp
  have hV2s : V2.heap.size = V.heap.size + 1 := by rw [hV2]; simp
  have MV : HM V W.heap.size ⟨oa, oc, os, wa, H.weaks.length, wc, ba, bn, bc, sa, H.sites.length, sc⟩ H := hm_later M1 BV
  have HMV : Hid (HM V W.heap.size ⟨oa, oc, os, wa, H.weaks.length, wc, ba, bn, bc, sa, H.sites.length, sc⟩ H) := MV
  have HWV : Hid (Below W.heap.size W V) := b1.trans (BV.mono hb1)
  have HT : Hid (Tri V2 V.heap.size (.slice none 0 0) (.slice wa H.weaks.length wc) (.slice sa H.sites.length sc)) := by rw [hV2]; exact Tri.new _ _ _ _
  have hasB : ∀ {fs : List OSh} {k : Nat}, (∀ t ∈ fs, t ∈ os) → RB wa sa fs k → HasB ⟨oa, oc, os, wa, H.weaks.length, wc, ba, bn, bc, sa, H.sites.length, sc⟩ k := by
    rintro fs k hf (⟨x, hx, e⟩ | ⟨x, hx, e⟩ | ⟨t, ht, x, hx, e⟩)
    · exact .inr (.inl ⟨x, hx, e⟩)
    · exact .inr (.inr (.inr (.inl ⟨x, hx, e⟩)))
    · exact .inr (.inr (.inr (.inr ⟨t, hf t ht, x, hx, e⟩)))
  have HRBL : Hid (∀ {fs : List OSh} {k : Nat}, (∀ t ∈ fs, t ∈ os) → RB wa sa fs k → W.heap.size ≤ k ∧ k < V.heap.size) := fun hf hb => hm_bl MV (hasB hf hb)
  have HC : Hid (CG W V2 W.heap.size V.heap.size (grOf H) (.slice none 0 0) wa wc sa sc (os.take 0) 0) := by
    have M2 := hm_later MV BV2
    have hwv := HWV.out.size
    refine ⟨HWV.out.trans (BV2.mono hwv), World.ownsRow_nil _ _ _ _, M2.wk, M2.st, Nat.zero_le _, rfl, fun i hi => by simp at hi, fun b hb => ?_, fun b _ e => by simp [Value.ownBlock] at e, fun hb => ?_, fun e => by simp [Value.ownBlock] at e, M2.sep.ws, fun t ht => by simp at ht, fun t ht => by simp at ht, by simp⟩
    · have := HRBL.out (fs := os.take 0) (fun t ht => List.mem_of_mem_take ht) hb; omega
    · have := HRBL.out (fs := os.take 0) (fun t ht => List.mem_of_mem_take ht) hb; omega
  have HO : Hid (os.length = H.objs.length) := ho
  have HSEP : Hid (SepX ⟨oa, oc, os, wa, H.weaks.length, wc, ba, bn, bc, sa, H.sites.length, sc⟩) := MV.sep
  have HBV2 : Hid (Below V.heap.size V V2) := BV2
  have hnil : ∀ k, (Value.slice none 0 0).ownBlock = some k → V.heap.size ≤ k := fun k e => by simp [Value.ownBlock] at e
  rw [ho] at hV
  rw [show (⟨oa, oc, os, wa, H.weaks.length, wc, ba, bn, bc, sa, H.sites.length, sc⟩ : HSh).v = .agg #[.slice oa os.length oc, .slice wa H.weaks.length wc, .slice ba bn bc, .slice sa H.sites.length sc] from rfl, ho]
  clear M1 MV b1 BV BV2 BW hasB CC
  rw [hV] at hV2
  have HVS : Hid (V.heap.size = w1.heap.size + 1) := hVs
  have hVl : w1.heap.size < V.heap.size := by omega
  clear hVs hV2s
  go_wp2
  rw [← hV2]
  clear hV2
  rw [← HVS.out]
  go_loopw [17] (fun i wr => ∃ (j : Nat) (vo : Value), i = .int .i64 (j : Int) ∧ j ≤ H.objs.length ∧ Hid (CG W wr W.heap.size V.heap.size (grOf H) vo wa wc sa sc (os.take j) j) ∧ Hid (Tri wr V.heap.size vo (.slice wa H.weaks.length wc) (.slice sa H.sites.length sc)) ∧ Hid (Below V.heap.size V wr) ∧ Hid (∀ k, vo.ownBlock = some k → V.heap.size ≤ k)) (fun i _ => H.objs.length - (intOf i).toNat)
  case atStart => exact ⟨0, .slice none 0 0, rfl, Nat.zero_le _, HC, HT, HBV2, hnil⟩
  case round =>
    clear HC HT HBV2 hnil hV
    obtain ⟨j, vo, rfl, hjl, HI, HTR, HVW, HNV⟩ := hrel
    have hbs := HI.out.bel.size
    have hgl := HTR.out.lt
    by_cases hlt : j < H.objs.length
    · have hM := hm_later HMV.out HVW.out
      obtain ⟨go, hgo, hgB, hgw⟩ := hm_own hM j hlt
      obtain ⟨hk2, hob, hfz⟩ := hm_obj hM j hlt go hgo
      have hgo' : oa = some ⟨go, 0, none⟩ := hgo
      subst hgo'
      have hjo : j < os.length := by have := HO.out; omega
      have HFJ : Hid (os[j].n = H.objs[j].field.length ∧ ownI wr W.heap.size (.slice os[j].f os[j].n os[j].c) H.objs[j].field) := hM.f j hlt hk2
      have HOB : Hid (ObjAt wr go (j * 8) H.objs[j] (.slice os[j].f os[j].n os[j].c)) := hob
      have hfl := HFL.out _ (List.getElem_mem hlt)
      have hjg : j < (grOf H).nodes.length := by rw [HGL.out]; exact hlt
      have HND : Hid ((grOf H).nodes[j] = ndOf H.objs[j]) := by show _ = _; simp [grOf]
      have HTK : Hid (os.take (j + 1) = os.take j ++ [⟨os[j].f, os[j].n, os[j].c⟩]) := by show _ = _; rw [List.take_succ_eq_append_getElem hjo]
      have HDF : Hid (∀ u ∈ os.take j, Dif u.f os[j].f) := fun u hu => by
        obtain ⟨i, hi, rfl⟩ := List.mem_iff_getElem.1 hu
        rw [List.length_take] at hi
        rw [List.getElem_take]
        exact (List.pairwise_iff_getElem.1 HSEP.out.ff) i j (by simp only; omega) hjo (by omega)
      have HDW : Hid (Dif wa os[j].f ∧ Dif sa os[j].f) := ⟨HSEP.out.fw _ (List.getElem_mem hjo), HSEP.out.fs _ (List.getElem_mem hjo)⟩
      have HTB : Hid (∀ y, os[j].f = some y → y.block < V.heap.size) := fun y hy => (HRBL.out (fs := os) (fun t ht => ht) (.inr (.inr ⟨_, List.getElem_mem hjo, y, hy, rfl⟩))).2
      obtain ⟨t, ht⟩ : ∃ t : OSh, (⟨os[j].f, os[j].n, os[j].c⟩ : OSh) = t := ⟨_, rfl⟩
      have hf' : os[j].f = t.f := by rw [← ht]
      have hn' : os[j].n = t.n := by rw [← ht]
      have hc' : os[j].c = t.c := by rw [← ht]
      rw [hf'] at HFJ HOB HDF HDW HTB
      rw [hn', hc'] at HFJ HOB
      rw [ht] at HTK
      obtain ⟨o, ho2⟩ : ∃ o, H.objs[j] = o := ⟨_, rfl⟩
      rw [ho2] at HFJ HOB hfl HND
      obtain ⟨f, tn, fc⟩ := t
      have hnl : tn = o.field.length := HFJ.out.1
      subst hnl
      simp only at HFJ HOB HDF HDW HTB
      obtain ⟨d0, d1, d2, d3, d4, d5, d6, d7⟩ := HOB.out
      clear ho2 ht hf' hn' hc' hob hfz hM HOB hgo
      have hjl8 : (j : Int) < (H.objs.length : Int) := by omega
      obtain ⟨V3, hV3⟩ : ∃ V3, V3 = wr.alloc (.cells #[.bool o.live, .int .i64 o.gen, .int .i64 o.site, .int .i64 o.holds, .int .i64 o.roots, .int .i64 o.count, .slice f o.field.length fc, .bool o.purple] 73) := ⟨_, rfl⟩
      have B3 : Below wr.heap.size wr V3 := by rw [hV3]; exact (Below.refl _ _).alloc (Nat.le_refl _) _
      have h3s : V3.heap.size = wr.heap.size + 1 := by rw [hV3]; simp
      have HOV : Hid (OBx V3 wr.heap.size o (.slice f o.field.length fc)) := by rw [hV3]; exact heap_alloc_new wr _
      have HIV : Hid (CG W V3 W.heap.size V.heap.size (grOf H) vo wa wc sa sc (os.take j) j) := cg_later HI.out hbs B3
      have HTV : Hid (Tri V3 V.heap.size vo (.slice wa H.weaks.length wc) (.slice sa H.sites.length sc)) := HTR.out.later B3
      have hsV := HVW.out.size
      have HFV : Hid (ownI V3 W.heap.size (.slice f o.field.length fc) o.field) := ownI_later HFJ.out.2 B3
      have HB3 : Hid (Below V.heap.size V V3) := HVW.out.trans (B3.mono hsV)
      have hBV : W.heap.size ≤ V3.heap.size := by omega
      have hgV : V.heap.size < V3.heap.size := by omega
      have HCK : Hid (∀ X, CG W X W.heap.size V.heap.size (grOf H) vo wa wc sa sc (os.take j) j → vo.ownBlock ≠ some wr.heap.size ∨ True) := fun _ _ => .inr trivial
      clear B3 HI HTR HVW HFJ HCK
      go_wp2
      rw [← hV3]
      clear hV3 d0 d1 d2 d3 d4 d5 d6 d7
      generalize wr.heap.size = b at *
      refine wp_region_step 7 (by kernel_rfl) (by kernel_rfl) (GJ V V3 V.heap.size V.heap.size b 5 o (.slice f o.field.length fc) vo (.slice wa H.weaks.length wc) (.slice sa H.sites.length sc)) (RI W V W.heap.size V.heap.size b V3.heap.size o f fc vo (grOf H) wa wc sa sc (os.take j) j) (fun _ _ _ _ => True) ⟨HB3.out.drew, Nat.le_refl _, HOV.out, HTV.out, fun _ => (Below.refl _ _).drew⟩ ?_ ?_
      · intro i o_ hi ho a X dn hJ hA hbn hnot hdep
        have hVX : V.heap.size ≤ X.heap.size := Nat.le_trans (by omega) hJ.ge
        have hBX : W.heap.size ≤ X.heap.size := Nat.le_trans hBV hJ.ge
        match i, hi, ho with
        | 0, _, ho =>
          obtain rfl := Option.some.inj ho
          exact opFieldG0 (alike_at hA (t := 4) (by kernel_rfl)) ⟨_, rfl, hJ.later (by decide) hVX (Below.refl _ _), rfl, fun q hq _ t ht => ⟨hbn.yields q hq t ht, trivial, trivial⟩⟩
        | 1, _, ho =>
          obtain rfl := Option.some.inj ho
          have e1 : a.eval (.tmp 21) = .pointer (some ⟨V.heap.size, 0, none⟩) := hbn.yields 0 (hdep ⟨0, .data⟩ (by simp) rfl) 21 rfl
          exact opLoadNs e1 (hJ.tri.cell 0) ⟨_, rfl, hJ.later (by decide) hVX (Below.refl _ _), rfl, fun q hq _ t ht => ⟨hbn.yields q hq t ht, trivial, trivial⟩⟩
        | 2, _, ho =>
          obtain rfl := Option.some.inj ho
          exact opLoadObj (alike_at hA (t := 6) (by kernel_rfl)) hJ.box ⟨_, rfl, hJ.later (by decide) hVX (Below.refl _ _), rfl, fun q hq _ t ht => ⟨hbn.yields q hq t ht, trivial, trivial⟩⟩
        | 3, _, ho =>
          obtain rfl := Option.some.inj ho
          have e1 : a.eval (.tmp 23) = objV o (.slice f o.field.length fc) := hbn.yields 2 (hdep ⟨2, .data⟩ (by simp) rfl) 23 rfl
          exact opNodeOf e1 (nodeOf_calls o f fc X) (fun e w' ⟨h1, h2⟩ => ⟨_, h1, _, rfl, hJ.later (by decide) hVX h2, rfl, fun q hq _ t ht => ⟨ri_mono q _ (hbn.yields q hq t ht) h2 hBX, trivial, trivial⟩⟩)
        | 4, _, ho =>
          obtain rfl := Option.some.inj ho
          have e1 : a.eval (.tmp 24) = .agg #[.bool o.live, .int .i64 o.gen, .int .i64 o.site, .int .i64 o.holds, .int .i64 o.roots, .slice f o.field.length fc] := hbn.yields 3 (hdep ⟨3, .data⟩ (by simp) rfl) 24 rfl
          have bX : Below X.heap.size X (X.alloc (.cells #[.bool o.live, .int .i64 o.gen, .int .i64 o.site, .int .i64 o.holds, .int .i64 o.roots, .slice f o.field.length fc] 54)) := (Below.refl _ _).alloc (Nat.le_refl _) _
          exact opNew1N e1 ⟨_, rfl, hJ.later (by decide) hVX bX, ⟨X.heap.size, rfl, hJ.ge, heap_alloc_new X _⟩, fun q hq _ t ht => ⟨ri_mono q _ (hbn.yields q hq t ht) bX hBX, trivial, trivial⟩⟩
        | 5, _, ho =>
          obtain rfl := Option.some.inj ho
          have e1 : a.eval (.tmp 22) = vo := hbn.yields 1 (hdep ⟨1, .data⟩ (by simp) rfl) 22 rfl
          obtain ⟨q, e2, gq, hq⟩ := hbn.yields 4 (hdep ⟨4, .data⟩ (by simp) rfl) 25 rfl
          have hpre := hJ.pre hnot
          have hX := cg_later HIV.out hBV hpre
          have hlv : ∀ k, vo.ownBlock = some k → k < V3.heap.size := fun k hk => (World.ownsRow.lt HIV.out.ro k hk).2
          refine wp_appendN _ _ rfl W.heap.size vo j _ e1 hX.ro q (ndOf o, ⟨f, o.field.length, fc⟩) e2 hq (by omega) hBX ?_
          intro v' X' r6 g6 hat
          refine ⟨_, rfl, ⟨hJ.bel.grown g6 hVX (fun k hk => HNV.out k hk), Nat.le_trans hJ.ge g6.size, (g6.block b hJ.box.lt (fun e => ?_)).trans hJ.box, hJ.tri.same (g6.block V.heap.size hJ.tri.lt (fun e => HIV.out.ngv e.symm)), fun hn => absurd (.inr rfl) hn⟩, ⟨?_, fun k hk => ?_⟩, fun k hk hne t ht => ⟨ri_same k hne _ (hbn.yields k hk t ht) (fun m hm hl => g6.block m hl (fun e => by have := hlv m e.symm; omega)), trivial, trivial⟩⟩
          · exact kind_ne (row_kind hX.ro b e.symm).choose_spec hJ.box (by decide) rfl
          · refine cg_step hX hBX hJ.tri.lt hjg ⟨f, o.field.length, fc⟩ (by rw [HND.out]; rfl) (by rw [HND.out]; exact ownI_later HFV.out hpre) (fun y hy e => by have := HNV.out _ e; have := HTB.out y hy; omega) (fun y hy => by have := HTB.out y hy; omega) HDW.out.1 HDW.out.2 HDF.out (by rw [HND.out]; exact r6) g6 hat
          · rcases hat with e | e
            · exact HNV.out k (by rw [← e]; exact hk)
            · rw [e] at hk; injection hk with hk; omega
        | 6, _, ho =>
          obtain rfl := Option.some.inj ho
          exact opFieldG0 (alike_at hA (t := 4) (by kernel_rfl)) ⟨_, rfl, hJ.later (by decide) hVX (Below.refl _ _), rfl, fun q hq _ t ht => ⟨hbn.yields q hq t ht, trivial, trivial⟩⟩
      · intro o_ ho a X dn hJ hA hbn hdn
        obtain rfl := Option.some.inj ho
        obtain ⟨hCG, hNV2⟩ := hbn.yields 5 (hdn 5 (by omega)) 26 rfl
        have e1 : a.eval (.tmp 27) = .pointer (some ⟨V.heap.size, 0, none⟩) := hbn.yields 6 (hdn 6 (by omega)) 27 rfl
        obtain ⟨oa2, oc2, e2, -⟩ := row_form hCG.ro
        rw [e2] at hCG hNV2
        rw [← HTK.out] at hCG
        refine opStoreNs e1 e2 (hJ.tri.cell 0) (hJ.tri.frozen 0) ?_
        have HCN : Hid _ := cg_set hCG HWV.out.size 0 (.slice oa2 (j + 1) oc2)
        have HTN : Hid _ := hJ.tri.set0 (.slice oa2 (j + 1) oc2)
        have HBN : Hid (Below V.heap.size V (X.setCell ⟨V.heap.size, 0, none⟩ (.slice oa2 (j + 1) oc2))) := hJ.bel.setCell (Nat.le_refl _) _
        have HNV3 : Hid _ := hNV2
        obtain ⟨us, hus, rfl⟩ := alike_tmps hA [21, 22, 23, 24, 25, 26, 27] (by kernel_rfl)
        clear hbn hdn hA hus e1 e2 hCG hJ ho hNV2
        generalize X.setCell ⟨V.heap.size, 0, none⟩ (.slice oa2 (j + 1) oc2) = Z at *
        simp only [List.mapIdx_cons, List.mapIdx_nil, Nat.reduceAdd, List.contains_cons, List.contains_nil, Nat.reduceBEq, Bool.or_false, Bool.or_true, if_true, if_false, Bool.false_eq_true]
        go_wp2
        go_roundw
        case rel => exact ⟨j + 1, _, by go_num, by omega, HCN, HTN, HBN, HNV3⟩
        case measure => simp [intOf]; omega
    · obtain rfl : j = H.objs.length := by omega
      obtain ⟨na, nc, rfl, -⟩ := row_form HI.out.ro
      have HE : Hid (MemG wr W.heap.size ⟨na, nc, os.take H.objs.length, wa, H.weaks.length, wc, sa, H.sites.length, sc⟩ (grOf H)) := by
        have hh := HI.out
        rw [← HGL.out] at hh
        have hm := cg_end hh (by rw [HGL.out]; omega) (fun z hz => by
          obtain ⟨y, hy, rfl⟩ := List.mem_map.1 hz
          have := HFL.out y hy
          show y.field.length ≤ _
          omega) (by show H.weaks.length ≤ _; omega) (by show H.sites.length ≤ _; omega)
        rw [HGL.out] at hm
        exact hm
      have HFS : Hid ((os.take H.objs.length).length = H.objs.length) := HI.out.fl
      have XF := HTR.out
      have hwv := HWV.out.size
      have RF2 : Tri wr (w.heap.size + 1) (.slice none 0 0) (.slice none 0 0) (.slice none 0 0) := HFR.out.same (HI.out.bel.block (w.heap.size + 1) (by omega))
      have x0 := XF.cell 0
      have x1' := XF.cell 1
      have x2' := XF.cell 2
      have r0 := RF2.cell 0
      have r1 := RF2.cell 1
      have r2 := RF2.cell 2
      have z0 := RF2.frozen 0
      have z1 := RF2.frozen 1
      have z2 := RF2.frozen 2
      simp only [List.getElem?_toArray, List.getElem?_cons_zero, List.getElem?_cons_succ] at x0 x1' x2' r0 r1 r2
      have HBl : Hid (Below w.heap.size w wr) := HBW.out.trans (HI.out.bel.mono HBW.out.size)
      clear XF RF2 HI HTR
      go_wp2
      refine bodyPost_ret (v := .agg #[.slice na H.objs.length nc, .slice wa H.weaks.length wc, .slice sa H.sites.length sc]) (by simp [results, Try.results18, go_sem, *]) rfl ⟨⟨na, nc, os.take H.objs.length, wa, H.weaks.length, wc, sa, H.sites.length, sc⟩, ?_, ?_, ?_⟩
      · rw [GSh.v]; simp only; rw [HFS.out]
      · refine memG_mono (memG_keepB HE.out ?_) (by omega)
        exact ((keepB_set _ _ ⟨w.heap.size + 1, 0, none⟩ _ (by simp only; omega)).trans (keepB_set _ _ ⟨w.heap.size + 1, 1, none⟩ _ (by simp only; omega))).trans (keepB_set _ _ ⟨w.heap.size + 1, 2, none⟩ _ (by simp only; omega))
      · iterate 3 refine Below.setCell ?_ (by simp only; omega) _
        exact HBl.out

end Go.Proofs.Ytjihbmkhifnblaa
