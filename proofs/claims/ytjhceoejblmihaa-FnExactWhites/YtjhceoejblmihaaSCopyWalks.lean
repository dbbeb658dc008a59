/- What spec.l5Copy makes: the heap in memory of its own. -/
import Derived.Test.YtjhceoejblmihaaCopyMath
namespace Go.Proofs.Ytjhceoejblmihaa
open Go.RowKit
set_option linter.unusedVariables false
set_option maxRecDepth 100000

/-- What each operation of the copy's literal yields. -/
def RC (B P : Nat) (wa : Option Addr) (wn wc : Nat) (ia : Option Addr) (im ic : Nat) (sa : Option Addr) (sn sc : Nat) (NW NI NS : List Value) : Nat → World → Value → Prop
  | 0, X, v => ∃ g, v = .slice (some ⟨g, 0, none⟩) 0 0 ∧ B ≤ g ∧ X.heap[g]? = some (.cells #[] 98 (0, 0))
  | 1, X, v => v = .pointer (some ⟨P, 1, none⟩)
  | 2, X, v => v = .slice wa wn wc
  | 3, X, v => X.ownsRow B 98 2 v wn NW
  | 4, X, v => ∃ g, v = .slice (some ⟨g, 0, none⟩) 0 0 ∧ B ≤ g ∧ X.heap[g]? = some (.cells #[] 3 (0, 0))
  | 5, X, v => v = .pointer (some ⟨P, 2, none⟩)
  | 6, X, v => v = .slice ia im ic
  | 7, X, v => X.ownsRow B 3 1 v im NI
  | 8, X, v => ∃ g, v = .slice (some ⟨g, 0, none⟩) 0 0 ∧ B ≤ g ∧ X.heap[g]? = some (.cells #[] 9 (0, 0))
  | 9, X, v => v = .pointer (some ⟨P, 3, none⟩)
  | 10, X, v => v = .slice sa sn sc
  | 11, X, v => X.ownsRow B 9 1 v sn NS
  | 12, X, v => ∃ x1 c1 x2 c2 x3 c3, v = .agg #[.slice none 0 0, .slice x1 wn c1, .slice x2 im c2, .slice x3 sn c3] ∧ X.ownsRow B 98 2 (.slice x1 wn c1) wn NW ∧ X.ownsRow B 3 1 (.slice x2 im c2) im NI ∧ X.ownsRow B 9 1 (.slice x3 sn c3) sn NS
  | 13, X, v => ∃ g, v = .pointer (some ⟨g, 0, none⟩) ∧ B ≤ g ∧ Four X g (.slice none 0 0) (.slice none 0 0) (.slice none 0 0) (.slice none 0 0)
  | _, _, _ => True
theorem rc_mono {B P : Nat} {wa : Option Addr} {wn wc : Nat} {ia : Option Addr} {im ic : Nat} {sa : Option Addr} {sn sc : Nat} {NW NI NS : List Value} (i : Nat) (X Y : World) (v : Value) (h : RC B P wa wn wc ia im ic sa sn sc NW NI NS i X v) (hb : Below X.heap.size X Y) : RC B P wa wn wc ia im ic sa sn sc NW NI NS i Y v := by
  have blk : ∀ (g : Nat) (o : Obj), X.heap[g]? = some o → Y.heap[g]? = some o := fun g o hg => (hb.block g (Array.getElem?_eq_some_iff.1 hg).1).trans hg
  match i, h with
  | 0, ⟨g, h1, h2, h3⟩ => exact ⟨g, h1, h2, blk g _ h3⟩
  | 1, h => exact h
  | 2, h => exact h
  | 3, h => exact row_later h hb
  | 4, ⟨g, h1, h2, h3⟩ => exact ⟨g, h1, h2, blk g _ h3⟩
  | 5, h => exact h
  | 6, h => exact h
  | 7, h => exact row_later h hb
  | 8, ⟨g, h1, h2, h3⟩ => exact ⟨g, h1, h2, blk g _ h3⟩
  | 9, h => exact h
  | 10, h => exact h
  | 11, h => exact row_later h hb
  | 12, ⟨x1, c1, x2, c2, x3, c3, h1, h2, h3, h4⟩ => exact ⟨x1, c1, x2, c2, x3, c3, h1, row_later h2 hb, row_later h3 hb, row_later h4 hb⟩
  | 13, ⟨g, h1, h2, h3⟩ => exact ⟨g, h1, h2, h3.later hb⟩
  | n + 14, _ => exact trivial

set_option maxHeartbeats 4000000 in
theorem sCopy_calls (v : Value) (H : HeapD) (w : World) (h : RdH w v H) (hs : SmallH H) :
    Calls Try.prog 64 #[v] w fun e w' => ∃ s : HSh, e = .returned s.v ∧ HM w' w.heap.size s H ∧ Below w.heap.size w w' := by
  obtain ⟨ao, co, aw, cw, ab, cb, sa, sc, rfl, ro, rwk, ri, rs⟩ := h
  have l0 := hs.objs
  have l1 := hs.weaks
  have l2 := hs.buffer
  have l3 := hs.sites
  obtain ⟨W, hW⟩ : ∃ W, W = (w.alloc (.cells #[.slice ao H.objs.length co, .slice aw H.weaks.length cw, .slice ab H.buffer.length cb, .slice sa H.sites.length sc] 35)).alloc (.cells #[.slice none 0 0, .slice none 0 0, .slice none 0 0, .slice none 0 0] 35) := ⟨_, rfl⟩
  have BW : Below w.heap.size w W := by rw [hW]; exact ((Below.refl _ _).alloc (Nat.le_refl _) _).alloc (by simp) _
  have hWs : W.heap.size = w.heap.size + 2 := by rw [hW]; simp
  have FP : Four W w.heap.size (.slice ao H.objs.length co) (.slice aw H.weaks.length cw) (.slice ab H.buffer.length cb) (.slice sa H.sites.length sc) := by
    have f1 := Four.new w (.slice ao H.objs.length co) (.slice aw H.weaks.length cw) (.slice ab H.buffer.length cb) (.slice sa H.sites.length sc)
    have hb2 : Below (w.heap.size + 1) (w.alloc (.cells #[.slice ao H.objs.length co, .slice aw H.weaks.length cw, .slice ab H.buffer.length cb, .slice sa H.sites.length sc] 35)) W := by rw [hW]; exact (Below.refl _ _).alloc (by simp) _
    exact (hb2.block w.heap.size (by omega)).trans f1
  have FR : Four W (w.heap.size + 1) (.slice none 0 0) (.slice none 0 0) (.slice none 0 0) (.slice none 0 0) := by
    rw [hW]
    have f1 := Four.new (w.alloc (.cells #[.slice ao H.objs.length co, .slice aw H.weaks.length cw, .slice ab H.buffer.length cb, .slice sa H.sites.length sc] 35)) (.slice none 0 0) (.slice none 0 0) (.slice none 0 0) (.slice none 0 0)
    simpa using f1
  have HSW : Hid (SrcC W aw H.weaks.length 2 (H.weaks.flatMap cellsW)) := (srcW rwk).later BW
  have HSI : Hid (SrcC W ab H.buffer.length 1 (H.buffer.map intV)) := (srcI ri).later BW
  have HSS : Hid (SrcC W sa H.sites.length 1 (H.sites.map strV)) := (srcS rs).later BW
  have HRO : Hid (RdO W ao H.objs) := rdO_later ro BW
  have HFP : Hid (Four W w.heap.size (.slice ao H.objs.length co) (.slice aw H.weaks.length cw) (.slice ab H.buffer.length cb) (.slice sa H.sites.length sc)) := FP
  have HFR : Hid (Four W (w.heap.size + 1) (.slice none 0 0) (.slice none 0 0) (.slice none 0 0) (.slice none 0 0)) := FR
  have HFL : Hid (∀ z ∈ H.objs, z.field.length ≤ 1048576) := hs.fields
  have HBW : Hid (Below w.heap.size w W) := BW
  have HWs : Hid (W.heap.size = w.heap.size + 2) := hWs
  clear ro rwk ri rs FP FR hs BW
  go_enter Try.func64, Try.ntmps64
  go_wp2
  rw [← hW]
  clear hW
  refine wp_region_last 14 (by kernel_rfl) (by kernel_rfl) (RC W.heap.size w.heap.size aw H.weaks.length cw ab H.buffer.length cb sa H.sites.length sc (H.weaks.flatMap cellsW) (H.buffer.map intV) (H.sites.map strV)) rc_mono ?_ ?_
  · intro i o hi ho a X hX hA hdep
    have FX := HFP.out.later hX
    have hXs := hX.size
    match i, hi, ho with
    | 0, _, ho =>
      obtain rfl := Option.some.inj ho
      exact opNewW ⟨_, rfl, (Below.refl _ _).alloc (Nat.le_refl _) _, X.heap.size, rfl, hXs, fresh_at X _⟩
    | 1, _, ho =>
      obtain rfl := Option.some.inj ho
      exact opField 1 (by omega) (alike_at hA (t := 1) (by kernel_rfl)) ⟨_, rfl, Below.refl _ _, rfl⟩
    | 2, _, ho =>
      obtain rfl := Option.some.inj ho
      have e1 : a.eval (.tmp 7) = .pointer (some ⟨w.heap.size, 1, none⟩) := hdep ⟨1, .data⟩ (by simp) rfl 7 rfl
      exact opLoadW e1 (FX.cell 1) ⟨_, rfl, Below.refl _ _, rfl⟩
    | 3, _, ho =>
      obtain rfl := Option.some.inj ho
      obtain ⟨g, e1, gB, hg⟩ := hdep ⟨0, .data⟩ (by simp) rfl 6 rfl
      have e2 : a.eval (.tmp 8) = .slice aw H.weaks.length cw := hdep ⟨2, .data⟩ (by simp) rfl 8 rfl
      exact wp_append_fresh elW _ _ rfl g W.heap.size hg gB aw H.weaks.length cw _ e1 e2 (HSW.out.later hX) (by omega) (by omega) (fun v' w' r b _ => ⟨_, rfl, b, r⟩)
    | 4, _, ho =>
      obtain rfl := Option.some.inj ho
      exact opNewI ⟨_, rfl, (Below.refl _ _).alloc (Nat.le_refl _) _, X.heap.size, rfl, hXs, fresh_at X _⟩
    | 5, _, ho =>
      obtain rfl := Option.some.inj ho
      exact opField 2 (by omega) (alike_at hA (t := 1) (by kernel_rfl)) ⟨_, rfl, Below.refl _ _, rfl⟩
    | 6, _, ho =>
      obtain rfl := Option.some.inj ho
      have e1 : a.eval (.tmp 11) = .pointer (some ⟨w.heap.size, 2, none⟩) := hdep ⟨5, .data⟩ (by simp) rfl 11 rfl
      exact opLoadI e1 (FX.cell 2) ⟨_, rfl, Below.refl _ _, rfl⟩
    | 7, _, ho =>
      obtain rfl := Option.some.inj ho
      obtain ⟨g, e1, gB, hg⟩ := hdep ⟨4, .data⟩ (by simp) rfl 10 rfl
      have e2 : a.eval (.tmp 12) = .slice ab H.buffer.length cb := hdep ⟨6, .data⟩ (by simp) rfl 12 rfl
      exact wp_append_fresh elI _ _ rfl g W.heap.size hg gB ab H.buffer.length cb _ e1 e2 (HSI.out.later hX) (by omega) (by omega) (fun v' w' r b _ => ⟨_, rfl, b, r⟩)
    | 8, _, ho =>
      obtain rfl := Option.some.inj ho
      exact opNewS ⟨_, rfl, (Below.refl _ _).alloc (Nat.le_refl _) _, X.heap.size, rfl, hXs, fresh_at X _⟩
    | 9, _, ho =>
      obtain rfl := Option.some.inj ho
      exact opField 3 (by omega) (alike_at hA (t := 1) (by kernel_rfl)) ⟨_, rfl, Below.refl _ _, rfl⟩
    | 10, _, ho =>
      obtain rfl := Option.some.inj ho
      have e1 : a.eval (.tmp 15) = .pointer (some ⟨w.heap.size, 3, none⟩) := hdep ⟨9, .data⟩ (by simp) rfl 15 rfl
      exact opLoadS e1 (FX.cell 3) ⟨_, rfl, Below.refl _ _, rfl⟩
    | 11, _, ho =>
      obtain rfl := Option.some.inj ho
      obtain ⟨g, e1, gB, hg⟩ := hdep ⟨8, .data⟩ (by simp) rfl 14 rfl
      have e2 : a.eval (.tmp 16) = .slice sa H.sites.length sc := hdep ⟨10, .data⟩ (by simp) rfl 16 rfl
      exact wp_append_fresh elS _ _ rfl g W.heap.size hg gB sa H.sites.length sc _ e1 e2 (HSS.out.later hX) (by omega) (by omega) (fun v' w' r b _ => ⟨_, rfl, b, r⟩)
    | 12, _, ho =>
      obtain rfl := Option.some.inj ho
      have r1 : X.ownsRow W.heap.size 98 2 (a.eval (.tmp 9)) H.weaks.length (H.weaks.flatMap cellsW) := hdep ⟨3, .data⟩ (by simp) rfl 9 rfl
      have r2 : X.ownsRow W.heap.size 3 1 (a.eval (.tmp 13)) H.buffer.length (H.buffer.map intV) := hdep ⟨7, .data⟩ (by simp) rfl 13 rfl
      have r3 : X.ownsRow W.heap.size 9 1 (a.eval (.tmp 17)) H.sites.length (H.sites.map strV) := hdep ⟨11, .data⟩ (by simp) rfl 17 rfl
      obtain ⟨x1, c1, e1, _⟩ := row_form r1
      obtain ⟨x2, c2, e2, _⟩ := row_form r2
      obtain ⟨x3, c3, e3, _⟩ := row_form r3
      rw [e1] at r1
      rw [e2] at r2
      rw [e3] at r3
      exact opBuild3 e1 e2 e3 ⟨_, rfl, Below.refl _ _, x1, c1, x2, c2, x3, c3, rfl, r1, r2, r3⟩
    | 13, _, ho =>
      obtain rfl := Option.some.inj ho
      exact opAlloc ⟨_, rfl, (Below.refl _ _).alloc (Nat.le_refl _) _, X.heap.size, rfl, hXs, Four.new X _ _ _ _⟩
  · intro o ho a X hX hA hdep
    obtain rfl := Option.some.inj ho
    obtain ⟨g, e1, gB, hf⟩ := hdep ⟨13, .data⟩ (by simp) rfl 3 rfl
    obtain ⟨x1, c1, x2, c2, x3, c3, e2, r1, r2, r3⟩ := hdep ⟨12, .data⟩ (by simp) rfl 18 rfl
    refine opStoreH e1 e2 hf ?_
    obtain ⟨us, hus, rfl⟩ := alike_tmps hA [6, 7, 8, 9, 10, 11, 12, 13, 14, 15, 16, 17, 18, 3] (by kernel_rfl)
    have e3 : us 3 = .pointer (some ⟨g, 0, none⟩) := (hus 3).symm.trans e1
    have HC : Hid (CI W (setFour X g (.slice none 0 0) (.slice x1 H.weaks.length c1) (.slice x2 H.buffer.length c2) (.slice x3 H.sites.length c3)) W.heap.size g H (.slice none 0 0) x1 c1 x2 c2 x3 c3 [] 0) := by
      have ne : ∀ {n sz : Nat} {e : TypeId} {v : Value} {xs : List Value}, X.ownsRow W.heap.size e sz v n xs → e ≠ 35 → (setFour X g (.slice none 0 0) (.slice x1 H.weaks.length c1) (.slice x2 H.buffer.length c2) (.slice x3 H.sites.length c3)).ownsRow W.heap.size e sz v n xs := fun hr hne => row_same hr (fun i hi => by
        obtain ⟨cur, hc⟩ := row_kind hr i hi
        exact setFour_other _ _ _ _ _ _ i (kind_ne hc hf hne))
      refine ⟨?_, hf.setAll _ _ _ _, gB, World.ownsRow_nil _ _ _ _, ne r1 (by decide), ne r2 (by decide), ne r3 (by decide), Nat.zero_le _, rfl, fun i hi => by simp at hi, List.Pairwise.nil, fun t ht => by simp at ht⟩
      unfold setFour
      exact (((hX.setCell gB _).setCell gB _).setCell gB _).setCell gB _
    clear hdep hA hus e1 e2 hf r1 r2 r3 ho
    generalize setFour X g (.slice none 0 0) (.slice x1 H.weaks.length c1) (.slice x2 H.buffer.length c2) (.slice x3 H.sites.length c3) = Y at *
    simp only [List.mapIdx_cons, List.mapIdx_nil, Nat.reduceAdd, List.contains_cons, List.contains_nil, Nat.reduceBEq, Bool.or_false, Bool.or_true, if_true, if_false, Bool.false_eq_true, e3]
    clear e3
    go_wp2
    go_loopw [4] (fun i wr => ∃ (j : Nat) (vo : Value) (fs : List OSh), i = .int .i64 (j : Int) ∧ j ≤ H.objs.length ∧ Hid (CI W wr W.heap.size g H vo x1 c1 x2 c2 x3 c3 fs j)) (fun i _ => H.objs.length - (intOf i).toNat)
    case atStart => exact ⟨0, .slice none 0 0, [], rfl, Nat.zero_le _, HC⟩
    case round =>
      obtain ⟨j, vo, fs, rfl, hjl, HI⟩ := hrel
      have hbs := HI.out.bel.size
      have hgl := HI.out.x.lt
      have p0 : wr.cell? ⟨w.heap.size, 0, none⟩ = some (.slice ao H.objs.length co) := (HI.out.bel.cell (p := ⟨w.heap.size, 0, none⟩) (by show w.heap.size < _; omega)).trans (HFP.out.cell 0)
      by_cases hlt : j < H.objs.length
      · obtain ⟨g2, off, f, fc, rfl, hg2, hc, hr⟩ := rdO_later HRO.out HI.out.bel j hlt
        have hfl := HFL.out _ (List.getElem_mem hlt)
        have HST : Hid (∀ (w5 w6 : World) (v2 : Value) (t : OSh), Below wr.heap.size wr w5 → t.n = H.objs[j].field.length → ownI w5 wr.heap.size (.slice t.f t.n t.c) H.objs[j].field → w6.ownsRow W.heap.size 61 8 v2 (j + 1) (((H.objs.take j).zip fs).flatMap cellsOb ++ cellsOb (H.objs[j], t)) → w5.grownBy w6 vo.ownBlock → CI W (w6.setCell ⟨g, 0, none⟩ v2) W.heap.size g H v2 x1 c1 x2 c2 x3 c3 (fs ++ [t]) (j + 1)) :=
          fun w5 w6 v2 t b5 hn ht r6 g6 => ci_step HI.out hbs hlt b5 t hn ht r6 g6
        have HX : Hid (Four wr g vo (.slice x1 H.weaks.length c1) (.slice x2 H.buffer.length c2) (.slice x3 H.sites.length c3)) := HI.out.x
        have HR0 : Hid (wr.ownsRow W.heap.size 61 8 vo j (((H.objs.take j).zip fs).flatMap cellsOb)) := HI.out.ro
        have HRI : Hid (SrcC wr f H.objs[j].field.length 1 (H.objs[j].field.map intV)) := srcI hr
        obtain ⟨o, ho⟩ : ∃ o, H.objs[j] = o := ⟨_, rfl⟩
        rw [ho] at hc hfl HST HRI
        generalize ((H.objs.take j).zip fs).flatMap cellsOb = XS at HST HR0
        clear ho hr HI
        obtain ⟨d0, d1, d2, d3, d4, d5, d6, d7⟩ := hc
        obtain ⟨V, hV⟩ : ∃ V, V = wr.alloc (.cells #[.bool o.live, .int .i64 o.gen, .int .i64 o.site, .int .i64 o.holds, .int .i64 o.roots, .int .i64 o.count, .slice f o.field.length fc, .bool o.purple] 61) := ⟨_, rfl⟩
        have BV : Below wr.heap.size wr V := by rw [hV]; exact (Below.refl _ _).alloc (Nat.le_refl _) _
        have hVs : V.heap.size = wr.heap.size + 1 := by rw [hV]; simp
        have HOV : Hid (OBx V wr.heap.size o (.slice f o.field.length fc)) := by rw [hV]; exact heap_alloc_new wr _
        have HBV : Hid (Below wr.heap.size wr V) := BV
        have v6 : V.cell? ⟨wr.heap.size, 6, none⟩ = some (.slice f o.field.length fc) := HOV.out.cell 6
        have hlq : wr.heap.size < V.heap.size := by omega
        have hnq : ¬ wr.heap.size = V.heap.size := by omega
        clear BV
        go_wp2_with (at_builtin; rw [← hV]; clear hV; refine wpList_append_fresh elI rfl _ _ rfl (wr.heap.size + 1) (wr.heap.size + 1) ?hg (Nat.le_refl _) f o.field.length fc (o.field.map intV) rfl rfl ?hs ?hm ?hby ?_)
        case hg => rw [← hVs]; exact fresh_at V _
        case hs => exact (HRI.out.later HBV.out).later ((Below.refl _ _).alloc (Nat.le_refl _) _)
        case hm => omega
        case hby => omega
        intro v3 w3 r3 b3 _
        obtain ⟨f3, c3', rfl, -⟩ := row_form r3
        clear v6 d0 d1 d2 d3 d4 d5 d6 d7 p0
        have b4 : Below V.heap.size (V.alloc (.cells #[] 3)) w3 := b3.mono (by first | omega | simp)
        have B3 : Below V.heap.size V w3 := ((Below.refl _ _).alloc (Nat.le_refl _) _).trans b4
        clear b4
        have T3 : Below wr.heap.size wr w3 := HBV.out.trans (B3.mono (by omega))
        have O3 := HOV.out.later B3
        have X3 := HX.out.later T3
        have q0 := O3.cell 0
        have q1 := O3.cell 1
        have q2 := O3.cell 2
        have q3 := O3.cell 3
        have q4 := O3.cell 4
        have q5 := O3.cell 5
        have q6 := O3.cell 6
        have q7 := O3.cell 7
        have z6 := O3.frozen 6
        have y0 := X3.cell 0
        have hgq : ¬ g = wr.heap.size := by omega
        have hqg : ¬ wr.heap.size = g := by omega
        have s3 := B3.size
        have hq3 : wr.heap.size < w3.heap.size := by omega
        have hg3 : g < w3.heap.size := by omega
        have hq4 : ¬ wr.heap.size = w3.heap.size := by omega
        have hg4 : ¬ g = w3.heap.size := by omega
        simp only [List.getElem?_toArray, List.getElem?_cons_zero, List.getElem?_cons_succ] at q0 q1 q2 q3 q4 q5 q6 q7 y0
        have HO3 : Hid (OBx w3 wr.heap.size o (.slice f o.field.length fc)) := O3
        have HX3 : Hid (Four w3 g vo (.slice x1 H.weaks.length c1) (.slice x2 H.buffer.length c2) (.slice x3 H.sites.length c3)) := X3
        have HT3 : Hid (Below wr.heap.size wr w3) := T3
        have HR3 : Hid (w3.ownsRow (wr.heap.size + 1) 3 1 (.slice f3 o.field.length c3') o.field.length (o.field.map intV)) := r3
        clear O3 X3 T3 B3 b3 r3
        obtain ⟨W5, hW5⟩ : ∃ W5, W5 = (w3.setCell ⟨wr.heap.size, 6, none⟩ (.slice f3 o.field.length c3')).alloc (.cells #[.bool o.live, .int .i64 o.gen, .int .i64 o.site, .int .i64 o.holds, .int .i64 o.roots, .int .i64 o.count, .slice f3 o.field.length c3', .bool o.purple] 61) := ⟨_, rfl⟩
        have hS4 : (w3.setCell ⟨wr.heap.size, 6, none⟩ (.slice f3 o.field.length c3')).heap.size = w3.heap.size := by simp [World.setCell]
        have HT5 : Hid (Below wr.heap.size wr W5) := by rw [hW5]; exact (HT3.out.setCell (by simp only; omega) _).alloc (by rw [hS4]; omega) _
        have HO5 : Hid (OBx W5 w3.heap.size o (.slice f3 o.field.length c3')) := by
          rw [hW5, ← hS4]; exact heap_alloc_new _ _
        have HR5 : Hid (ownI W5 wr.heap.size (.slice f3 o.field.length c3') o.field) := by
          have r := HR3.out
          rw [hW5]
          refine World.ownsRow.alloc (row_same (row_mono r (by omega)) (fun i hi => ?_)) _
          have := (World.ownsRow.lt r i hi).1
          exact heap_setCell_other _ _ _ _ (by simp only; omega)
        have hs5 : W5.heap.size = w3.heap.size + 1 := by rw [hW5]; simp [World.setCell]
        have HX5 : Hid (Four W5 g vo (.slice x1 H.weaks.length c1) (.slice x2 H.buffer.length c2) (.slice x3 H.sites.length c3)) := HX.out.later HT5.out
        have HRO5 : Hid (W5.ownsRow W.heap.size 61 8 vo j XS) := row_later HR0.out HT5.out
        clear hS4
        go_wp2_with (at_builtin; rw [← hW5]; clear hW5; refine wpList_appendO rfl _ _ rfl W.heap.size vo j XS rfl HRO5.out w3.heap.size (o, ⟨f3, o.field.length, c3'⟩) rfl HO5.out (by omega) (by omega) ?_)
        intro v6 w6 r6 g6
        rw [← HWs.out] at r6
        obtain ⟨f6, c6, rfl, -⟩ := row_form r6
        have hx6 : w6.heap[g]? = W5.heap[g]? := g6.block g (by omega) (fun e2 => by
          obtain ⟨cur2, hc⟩ := row_kind HRO5.out g e2.symm
          exact kind_ne hc HX5.out (by decide) rfl)
        have X6 := HX5.out.same hx6
        have y6 := X6.cell 0
        have z7 := X6.frozen 0
        simp only [List.getElem?_toArray, List.getElem?_cons_zero] at y6
        have HN : Hid _ := HST.out W5 w6 _ ⟨f3, o.field.length, c3'⟩ HT5.out rfl HR5.out r6 g6
        clear q0 q1 q2 q3 q4 q5 q6 q7 y0 z6 r6 g6 hx6 X6
        go_wp2
        go_roundw
        case rel => exact ⟨j + 1, _, _, by go_num, by omega, HN⟩
        case measure => simp [intOf]; omega
      · obtain rfl : j = H.objs.length := by omega
        obtain ⟨oa, oc, rfl, -⟩ := row_form HI.out.ro
        have HE : Hid _ := ci_end HI.out
        have XF := HI.out.x
        have RF := (HI.out.bel.block (w.heap.size + 1) (by omega)).trans HFR.out
        have RF2 : Four wr (w.heap.size + 1) (.slice none 0 0) (.slice none 0 0) (.slice none 0 0) (.slice none 0 0) := RF
        have x0 := XF.cell 0
        have x1' := XF.cell 1
        have x2' := XF.cell 2
        have x3' := XF.cell 3
        have r0 := RF2.cell 0
        have r1 := RF2.cell 1
        have r2 := RF2.cell 2
        have r3 := RF2.cell 3
        have z0 := RF2.frozen 0
        have z1 := RF2.frozen 1
        have z2 := RF2.frozen 2
        have z3 := RF2.frozen 3
        simp only [List.getElem?_toArray, List.getElem?_cons_zero, List.getElem?_cons_succ] at x0 x1' x2' x3' r0 r1 r2 r3
        have HBl : Hid (Below w.heap.size w wr) := HBW.out.trans (HI.out.bel.mono HBW.out.size)
        clear XF RF RF2 HI
        go_wp2
        refine bodyPost_ret (v := .agg #[.slice oa H.objs.length oc, .slice x1 H.weaks.length c1, .slice x2 H.buffer.length c2, .slice x3 H.sites.length c3]) (by simp [results, Try.results64, go_sem, *]) rfl ⟨⟨oa, oc, fs, x1, H.weaks.length, c1, x2, H.buffer.length, c2, x3, H.sites.length, c3⟩, ?_, ?_, ?_⟩
        · rw [HSh.v, HE.out.lo]
        · refine hm_mono (hm_keepB HE.out ?_) (by omega)
          refine (((keepB_set _ _ ⟨w.heap.size + 1, 0, none⟩ _ (by simp only; omega)).trans (keepB_set _ _ ⟨w.heap.size + 1, 1, none⟩ _ (by simp only; omega))).trans (keepB_set _ _ ⟨w.heap.size + 1, 2, none⟩ _ (by simp only; omega))).trans (keepB_set _ _ ⟨w.heap.size + 1, 3, none⟩ _ (by simp only; omega))
        · iterate 4 refine Below.setCell ?_ (by simp only; omega) _
          exact HBl.out

end Go.Proofs.Ytjhceoejblmihaa
