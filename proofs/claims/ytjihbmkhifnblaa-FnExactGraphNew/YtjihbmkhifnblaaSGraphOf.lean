/- What spec.GraphOf makes: the graph in memory of its own. -/
import Derived.Test.YtjihbmkhifnblaaGraphOps
namespace Go.Proofs.Ytjihbmkhifnblaa
open Go.RowKit
set_option linter.unusedVariables false
set_option maxRecDepth 100000

/-- What each operation of the literal yields. -/
def RG (B P : Nat) (wa : Option Addr) (wn wc : Nat) (sa : Option Addr) (sn sc : Nat) (NW NS : List Value) : Nat → World → Value → Prop
  | 0, X, v => ∃ g, v = .slice (some ⟨g, 0, none⟩) 0 0 ∧ B ≤ g ∧ X.heap[g]? = some (.cells #[] 89 (0, 0))
  | 1, X, v => v = .pointer (some ⟨P, 1, none⟩)
  | 2, X, v => v = .slice wa wn wc
  | 3, X, v => X.ownsRow B 89 2 v wn NW
  | 4, X, v => ∃ g, v = .slice (some ⟨g, 0, none⟩) 0 0 ∧ B ≤ g ∧ X.heap[g]? = some (.cells #[] 9 (0, 0))
  | 5, X, v => v = .pointer (some ⟨P, 3, none⟩)
  | 6, X, v => v = .slice sa sn sc
  | 7, X, v => X.ownsRow B 9 1 v sn NS
  | 8, X, v => ∃ x1 c1 x3 c3, v = .agg #[.slice none 0 0, .slice x1 wn c1, .slice x3 sn c3] ∧ X.ownsRow B 89 2 (.slice x1 wn c1) wn NW ∧ X.ownsRow B 9 1 (.slice x3 sn c3) sn NS
  | 9, X, v => ∃ g, v = .pointer (some ⟨g, 0, none⟩) ∧ B ≤ g ∧ Tri X g (.slice none 0 0) (.slice none 0 0) (.slice none 0 0)
  | _, _, _ => True
theorem rg_mono {B P : Nat} {wa : Option Addr} {wn wc : Nat} {sa : Option Addr} {sn sc : Nat} {NW NS : List Value} (i : Nat) (X Y : World) (v : Value) (h : RG B P wa wn wc sa sn sc NW NS i X v) (hb : Below X.heap.size X Y) : RG B P wa wn wc sa sn sc NW NS i Y v := by
  have blk : ∀ (g : Nat) (o : Obj), X.heap[g]? = some o → Y.heap[g]? = some o := fun g o hg => (hb.block g (Array.getElem?_eq_some_iff.1 hg).1).trans hg
  match i, h with
  | 0, ⟨g, h1, h2, h3⟩ => exact ⟨g, h1, h2, blk g _ h3⟩
  | 1, h => exact h
  | 2, h => exact h
  | 3, h => exact row_later h hb
  | 4, ⟨g, h1, h2, h3⟩ => exact ⟨g, h1, h2, blk g _ h3⟩
  | 5, h => exact h
  | 6, h => exact h
  | 7, h => exact row_later h hb
  | 8, ⟨x1, c1, x3, c3, h1, h2, h4⟩ => exact ⟨x1, c1, x3, c3, h1, row_later h2 hb, row_later h4 hb⟩
  | 9, ⟨g, h1, h2, h3⟩ => exact ⟨g, h1, h2, h3.later hb⟩
  | n + 10, _ => exact trivial

/-- What each operation of a round yields; vs: blocks from there on are the round's own. -/
def RN (W : World) (B g b vs : Nat) (o : ObjD) (f : Option Addr) (fc : Nat) (vo : Value) (G : GrD) (wa : Option Addr) (wc : Nat) (sa : Option Addr) (sc : Nat) (fs : List OSh) (j : Nat) : Nat → World → Value → Prop
  | 0, X, v => v = .pointer (some ⟨g, 0, none⟩)
  | 1, X, v => v = vo
  | 2, X, v => v = .pointer (some ⟨b, 0, none⟩)
  | 3, X, v => v = .bool o.live
  | 4, X, v => v = .pointer (some ⟨b, 1, none⟩)
  | 5, X, v => v = .int .i64 o.gen
  | 6, X, v => v = .pointer (some ⟨b, 2, none⟩)
  | 7, X, v => v = .int .i64 o.site
  | 8, X, v => v = .pointer (some ⟨b, 3, none⟩)
  | 9, X, v => v = .int .i64 o.holds
  | 10, X, v => v = .pointer (some ⟨b, 4, none⟩)
  | 11, X, v => v = .int .i64 o.roots
  | 12, X, v => ∃ q, v = .slice (some ⟨q, 0, none⟩) 0 0 ∧ vs ≤ q ∧ X.heap[q]? = some (.cells #[] 3 (0, 0))
  | 13, X, v => v = .pointer (some ⟨b, 6, none⟩)
  | 14, X, v => v = .slice f o.field.length fc
  | 15, X, v => X.ownsRow vs 3 1 v o.field.length (o.field.map intV)
  | 16, X, v => ∃ x c, v = .agg #[.bool o.live, .int .i64 o.gen, .int .i64 o.site, .int .i64 o.holds, .int .i64 o.roots, .slice x o.field.length c] ∧ X.ownsRow vs 3 1 (.slice x o.field.length c) o.field.length (o.field.map intV)
  | 17, X, v => ∃ q x c, v = .slice (some ⟨q, 0, none⟩) 1 1 ∧ vs ≤ q ∧ NBx X q (ndOf o) (.slice x o.field.length c) ∧ X.ownsRow vs 3 1 (.slice x o.field.length c) o.field.length (o.field.map intV)
  | 18, X, v => ∃ t : OSh, CG W X B g G v wa wc sa sc (fs ++ [t]) (j + 1)
  | 19, X, v => v = .pointer (some ⟨g, 0, none⟩)
  | _, _, _ => True
/-- Blocks from vs on are as they were: so is what the operations yielded, the append's apart. -/
theorem rn_same {W X Y : World} {B g b vs : Nat} {o : ObjD} {f : Option Addr} {fc : Nat} {vo : Value} {G : GrD} {wa : Option Addr} {wc : Nat} {sa : Option Addr} {sc : Nat} {fs : List OSh} {j : Nat} (i : Nat) (hi : i ≠ 18) (v : Value) (h : RN W B g b vs o f fc vo G wa wc sa sc fs j i X v) (hk : ∀ k, vs ≤ k → k < X.heap.size → Y.heap[k]? = X.heap[k]?) : RN W B g b vs o f fc vo G wa wc sa sc fs j i Y v := by
  have blk : ∀ (q : Nat) (u : Obj), vs ≤ q → X.heap[q]? = some u → Y.heap[q]? = some u := fun q u hq hg => (hk q hq (Array.getElem?_eq_some_iff.1 hg).1).trans hg
  have row : ∀ {n : Nat} {e : TypeId} {sz : Nat} {v : Value} {xs : List Value}, X.ownsRow vs e sz v n xs → Y.ownsRow vs e sz v n xs := fun hr => row_same hr (fun q hq => hk q (World.ownsRow.lt hr q hq).1 (World.ownsRow.lt hr q hq).2)
  match i, h with
  | 0, h => exact h
  | 1, h => exact h
  | 2, h => exact h
  | 3, h => exact h
  | 4, h => exact h
  | 5, h => exact h
  | 6, h => exact h
  | 7, h => exact h
  | 8, h => exact h
  | 9, h => exact h
  | 10, h => exact h
  | 11, h => exact h
  | 12, ⟨q, h1, h2, h3⟩ => exact ⟨q, h1, h2, blk q _ h2 h3⟩
  | 13, h => exact h
  | 14, h => exact h
  | 15, h => exact row h
  | 16, ⟨x, c, h1, h2⟩ => exact ⟨x, c, h1, row h2⟩
  | 17, ⟨q, x, c, h1, h2, h3, h4⟩ => exact ⟨q, x, c, h1, h2, blk q _ h2 h3, row h4⟩
  | 18, _ => exact absurd rfl hi
  | 19, h => exact h
  | n + 20, _ => exact trivial
theorem rn_mono {W X Y : World} {B g b vs : Nat} {o : ObjD} {f : Option Addr} {fc : Nat} {vo : Value} {G : GrD} {wa : Option Addr} {wc : Nat} {sa : Option Addr} {sc : Nat} {fs : List OSh} {j : Nat} (i : Nat) (v : Value) (h : RN W B g b vs o f fc vo G wa wc sa sc fs j i X v) (hb : Below X.heap.size X Y) (hB : B ≤ X.heap.size) : RN W B g b vs o f fc vo G wa wc sa sc fs j i Y v := by
  by_cases hi : i = 18
  · subst hi
    obtain ⟨t, ht⟩ := h
    exact ⟨t, cg_later ht hB hb⟩
  · exact rn_same i hi v h (fun k _ hl => hb.block k hl)

/-- What holds of the memory in a round; n: the append's number. -/
structure GJ (W V : World) (B g b n : Nat) (o : ObjD) (fv vo x1 x3 : Value) (dn : Nat → Prop) (X : World) : Prop where
  bel : Below B W X
  ge : V.heap.size ≤ X.heap.size
  box : OBx X b o fv
  tri : Tri X g vo x1 x3
  pre : ¬ dn n → Below V.heap.size V X
theorem GJ.later {W V X Y : World} {B g b n : Nat} {o : ObjD} {fv vo x1 x3 : Value} {dn : Nat → Prop} {i : Nat} (h : GJ W V B g b n o fv vo x1 x3 dn X) (hi : i ≠ n) (hB : B ≤ X.heap.size) (hb : Below X.heap.size X Y) : GJ W V B g b n o fv vo x1 x3 (fun k => dn k ∨ k = i) Y :=
  ⟨h.bel.trans (hb.mono hB), Nat.le_trans h.ge hb.size, h.box.later hb, h.tri.later hb, fun hn => (h.pre (fun h2 => hn (.inl h2))).trans (hb.mono h.ge)⟩

set_option maxHeartbeats 4000000 in
theorem sGraphOf_calls (v : Value) (H : HeapD) (w : World) (h : RdH w v H) (hs : SmallH H) :
    Calls Try.prog 16 #[v] w fun e w' => ∃ s : GSh, e = .returned s.v ∧ MemG w' w.heap.size s (grOf H) ∧ Below w.heap.size w w' := by
  obtain ⟨ao, co, aw, cw, ab, cb, sa, sc, rfl, ro, rwk, ri, rs⟩ := h
  have l0 := hs.objs
  have l1 := hs.weaks
  have l3 := hs.sites
  obtain ⟨W, hW⟩ : ∃ W, W = (w.alloc (.cells #[.slice ao H.objs.length co, .slice aw H.weaks.length cw, .slice ab H.buffer.length cb, .slice sa H.sites.length sc] 47)).alloc (.cells #[.slice none 0 0, .slice none 0 0, .slice none 0 0] 26) := ⟨_, rfl⟩
  have BW : Below w.heap.size w W := by rw [hW]; exact ((Below.refl _ _).alloc (Nat.le_refl _) _).alloc (by simp) _
  have hWs : W.heap.size = w.heap.size + 2 := by rw [hW]; simp
  have FP : Four W w.heap.size (.slice ao H.objs.length co) (.slice aw H.weaks.length cw) (.slice ab H.buffer.length cb) (.slice sa H.sites.length sc) := by
    have f1 := Four.new w (.slice ao H.objs.length co) (.slice aw H.weaks.length cw) (.slice ab H.buffer.length cb) (.slice sa H.sites.length sc)
    have hb2 : Below (w.heap.size + 1) (w.alloc (.cells #[.slice ao H.objs.length co, .slice aw H.weaks.length cw, .slice ab H.buffer.length cb, .slice sa H.sites.length sc] 47)) W := by rw [hW]; exact (Below.refl _ _).alloc (by simp) _
    exact (hb2.block w.heap.size (by omega)).trans f1
  have FR : Tri W (w.heap.size + 1) (.slice none 0 0) (.slice none 0 0) (.slice none 0 0) := by
    rw [hW]
    have f1 := Tri.new (w.alloc (.cells #[.slice ao H.objs.length co, .slice aw H.weaks.length cw, .slice ab H.buffer.length cb, .slice sa H.sites.length sc] 47)) (.slice none 0 0) (.slice none 0 0) (.slice none 0 0)
    simpa using f1
  have HSW : Hid (SrcC W aw H.weaks.length 2 (H.weaks.flatMap cellsW)) := (srcW rwk).later BW
  have HSS : Hid (SrcC W sa H.sites.length 1 (H.sites.map strV)) := (srcS rs).later BW
  have HRO : Hid (RdO W ao H.objs) := rdO_later ro BW
  have HFP : Hid (Four W w.heap.size (.slice ao H.objs.length co) (.slice aw H.weaks.length cw) (.slice ab H.buffer.length cb) (.slice sa H.sites.length sc)) := FP
  have HFR : Hid (Tri W (w.heap.size + 1) (.slice none 0 0) (.slice none 0 0) (.slice none 0 0)) := FR
  have HFL : Hid (∀ z ∈ H.objs, z.field.length ≤ 1048576) := hs.fields
  have HBW : Hid (Below w.heap.size w W) := BW
  have HWs : Hid (W.heap.size = w.heap.size + 2) := hWs
  have HGL : Hid ((grOf H).nodes.length = H.objs.length) := by show _ = _; simp [grOf]
  clear ro rwk ri rs FP FR hs BW
  go_enter Try.func16, Try.ntmps16
  go_wp2
  rw [← hW]
  clear hW
  refine wp_region_last 10 (by kernel_rfl) (by kernel_rfl) (RG W.heap.size w.heap.size aw H.weaks.length cw sa H.sites.length sc (H.weaks.flatMap cellsW) (H.sites.map strV)) rg_mono ?_ ?_
  · intro i o hi ho a X hX hA hdep
    have FX := HFP.out.later hX
    have hXs := hX.size
    match i, hi, ho with
    | 0, _, ho =>
      obtain rfl := Option.some.inj ho
      exact opNewW ⟨_, rfl, (Below.refl _ _).alloc (Nat.le_refl _) _, X.heap.size, rfl, hXs, fresh_at X _⟩
    | 1, _, ho =>
      obtain rfl := Option.some.inj ho
      exact opField 1 (by omega) (alike_at hA (t := 1) (by kernel_rfl)) ⟨_, rfl, Below.refl _ _, rfl⟩
    | 2, _, ho =>
      obtain rfl := Option.some.inj ho
      have e1 : a.eval (.tmp 7) = .pointer (some ⟨w.heap.size, 1, none⟩) := hdep ⟨1, .data⟩ (by simp) rfl 7 rfl
      exact opLoadW e1 (FX.cell 1) ⟨_, rfl, Below.refl _ _, rfl⟩
    | 3, _, ho =>
      obtain rfl := Option.some.inj ho
      obtain ⟨g, e1, gB, hg⟩ := hdep ⟨0, .data⟩ (by simp) rfl 6 rfl
      have e2 : a.eval (.tmp 8) = .slice aw H.weaks.length cw := hdep ⟨2, .data⟩ (by simp) rfl 8 rfl
      exact wp_append_fresh elW _ _ rfl g W.heap.size hg gB aw H.weaks.length cw _ e1 e2 (HSW.out.later hX) (by omega) (by omega) (fun v' w' r b _ => ⟨_, rfl, b, r⟩)
    | 4, _, ho =>
      obtain rfl := Option.some.inj ho
      exact opNewS ⟨_, rfl, (Below.refl _ _).alloc (Nat.le_refl _) _, X.heap.size, rfl, hXs, fresh_at X _⟩
    | 5, _, ho =>
      obtain rfl := Option.some.inj ho
      exact opField 3 (by omega) (alike_at hA (t := 1) (by kernel_rfl)) ⟨_, rfl, Below.refl _ _, rfl⟩
    | 6, _, ho =>
      obtain rfl := Option.some.inj ho
      have e1 : a.eval (.tmp 11) = .pointer (some ⟨w.heap.size, 3, none⟩) := hdep ⟨5, .data⟩ (by simp) rfl 11 rfl
      exact opLoadS e1 (FX.cell 3) ⟨_, rfl, Below.refl _ _, rfl⟩
    | 7, _, ho =>
      obtain rfl := Option.some.inj ho
      obtain ⟨g, e1, gB, hg⟩ := hdep ⟨4, .data⟩ (by simp) rfl 10 rfl
      have e2 : a.eval (.tmp 12) = .slice sa H.sites.length sc := hdep ⟨6, .data⟩ (by simp) rfl 12 rfl
      exact wp_append_fresh elS _ _ rfl g W.heap.size hg gB sa H.sites.length sc _ e1 e2 (HSS.out.later hX) (by omega) (by omega) (fun v' w' r b _ => ⟨_, rfl, b, r⟩)
    | 8, _, ho =>
      obtain rfl := Option.some.inj ho
      have r1 : X.ownsRow W.heap.size 89 2 (a.eval (.tmp 9)) H.weaks.length (H.weaks.flatMap cellsW) := hdep ⟨3, .data⟩ (by simp) rfl 9 rfl
      have r3 : X.ownsRow W.heap.size 9 1 (a.eval (.tmp 13)) H.sites.length (H.sites.map strV) := hdep ⟨7, .data⟩ (by simp) rfl 13 rfl
      obtain ⟨x1, c1, e1, _⟩ := row_form r1
      obtain ⟨x3, c3, e3, _⟩ := row_form r3
      rw [e1] at r1
      rw [e3] at r3
      exact opBuildG2 e1 e3 ⟨_, rfl, Below.refl _ _, x1, c1, x3, c3, rfl, r1, r3⟩
    | 9, _, ho =>
      obtain rfl := Option.some.inj ho
      exact opAllocG ⟨_, rfl, (Below.refl _ _).alloc (Nat.le_refl _) _, X.heap.size, rfl, hXs, Tri.new X _ _ _⟩
  · intro o ho a X hX hA hdep
    obtain rfl := Option.some.inj ho
    obtain ⟨g, e1, gB, hf⟩ := hdep ⟨9, .data⟩ (by simp) rfl 3 rfl
    obtain ⟨x1, c1, x3, c3, e2, r1, r3⟩ := hdep ⟨8, .data⟩ (by simp) rfl 14 rfl
    refine opStoreG e1 e2 hf ?_
    obtain ⟨us, hus, rfl⟩ := alike_tmps hA [6, 7, 8, 9, 10, 11, 12, 13, 14, 3] (by kernel_rfl)
    have e3 : us 3 = .pointer (some ⟨g, 0, none⟩) := (hus 3).symm.trans e1
    have HT : Hid (Tri (setTri X g (.slice none 0 0) (.slice x1 H.weaks.length c1) (.slice x3 H.sites.length c3)) g (.slice none 0 0) (.slice x1 H.weaks.length c1) (.slice x3 H.sites.length c3)) := hf.setAll _ _ _
    have HC : Hid (CG W (setTri X g (.slice none 0 0) (.slice x1 H.weaks.length c1) (.slice x3 H.sites.length c3)) W.heap.size g (grOf H) (.slice none 0 0) x1 c1 x3 c3 [] 0) := by
      have ne : ∀ {n sz : Nat} {e : TypeId} {v : Value} {xs : List Value}, X.ownsRow W.heap.size e sz v n xs → e ≠ 26 → (setTri X g (.slice none 0 0) (.slice x1 H.weaks.length c1) (.slice x3 H.sites.length c3)).ownsRow W.heap.size e sz v n xs := fun hr hne => row_same hr (fun i hi => by
        obtain ⟨cur, hc⟩ := row_kind hr i hi
        exact setTri_other _ _ _ _ _ i (kind_ne hc hf hne))
      have q1 := ne r1 (by decide)
      have q3 := ne r3 (by decide)
      have b1 := row_block q1
      have b3 := row_block q3
      have rb : ∀ b, RB x1 x3 [] b → W.heap.size ≤ b ∧ b < (setTri X g (.slice none 0 0) (.slice x1 H.weaks.length c1) (.slice x3 H.sites.length c3)).heap.size := by
        rintro b (⟨x, hx, e⟩ | ⟨x, hx, e⟩ | ⟨t, ht, _⟩)
        · rw [← e]; exact b1 x hx
        · rw [← e]; exact b3 x hx
        · simp at ht
      have rg : ¬ RB x1 x3 [] g := by
        rintro (⟨x, hx, e⟩ | ⟨x, hx, e⟩ | ⟨t, ht, _⟩)
        · obtain ⟨cur, hc⟩ := row_kind r1 _ (own_block hx)
          exact kind_ne hc hf (by decide) e
        · obtain ⟨cur, hc⟩ := row_kind r3 _ (own_block hx)
          exact kind_ne hc hf (by decide) e
        · simp at ht
      refine ⟨?_, World.ownsRow_nil _ _ _ _, row_weaks q1, q3, Nat.zero_le _, rfl, fun i hi => by simp at hi, rb, fun b _ e => by simp [Value.ownBlock] at e, rg, fun e => by simp [Value.ownBlock] at e, row_dif q1 q3 (by decide), fun t ht => by simp at ht, fun t ht => by simp at ht, List.Pairwise.nil⟩
      unfold setTri
      exact ((hX.setCell gB _).setCell gB _).setCell gB _
    clear hdep hA hus e1 e2 hf r1 r3 ho
    generalize setTri X g (.slice none 0 0) (.slice x1 H.weaks.length c1) (.slice x3 H.sites.length c3) = Y at *
    simp only [List.mapIdx_cons, List.mapIdx_nil, Nat.reduceAdd, List.contains_cons, List.contains_nil, Nat.reduceBEq, Bool.or_false, Bool.or_true, if_true, if_false, Bool.false_eq_true, e3]
    clear e3
    go_wp2
    go_loopw [4] (fun i wr => ∃ (j : Nat) (vo : Value) (fs : List OSh), i = .int .i64 (j : Int) ∧ j ≤ H.objs.length ∧ Hid (CG W wr W.heap.size g (grOf H) vo x1 c1 x3 c3 fs j) ∧ Hid (Tri wr g vo (.slice x1 H.weaks.length c1) (.slice x3 H.sites.length c3))) (fun i _ => H.objs.length - (intOf i).toNat)
    case atStart => exact ⟨0, .slice none 0 0, [], rfl, Nat.zero_le _, HC, HT⟩
    case round =>
      clear HC HT
      obtain ⟨j, vo, fs, rfl, hjl, HI, HTR⟩ := hrel
      have hbs := HI.out.bel.size
      have hgl := HTR.out.lt
      have p0 : wr.cell? ⟨w.heap.size, 0, none⟩ = some (.slice ao H.objs.length co) := (HI.out.bel.cell (p := ⟨w.heap.size, 0, none⟩) (by show w.heap.size < _; omega)).trans (HFP.out.cell 0)
      by_cases hlt : j < H.objs.length
      · obtain ⟨g2, off, f, fc, rfl, hg2, hc0, hr⟩ := HRO.out j hlt
        have hc := hc0.keep (fun k => HI.out.bel.cell (p := ⟨g2, k, none⟩) hg2)
        have hfl := HFL.out _ (List.getElem_mem hlt)
        have hjg : j < (grOf H).nodes.length := by rw [HGL.out]; exact hlt
        have HND : Hid ((grOf H).nodes[j] = ndOf H.objs[j]) := by show _ = _; simp [grOf]
        have HRI : Hid (SrcC W f H.objs[j].field.length 1 (H.objs[j].field.map intV)) := srcI hr
        obtain ⟨o, ho⟩ : ∃ o, H.objs[j] = o := ⟨_, rfl⟩
        rw [ho] at hc hfl HND HRI
        clear ho hr hc0
        obtain ⟨d0, d1, d2, d3, d4, d5, d6, d7⟩ := hc
        obtain ⟨V, hV⟩ : ∃ V, V = wr.alloc (.cells #[.bool o.live, .int .i64 o.gen, .int .i64 o.site, .int .i64 o.holds, .int .i64 o.roots, .int .i64 o.count, .slice f o.field.length fc, .bool o.purple] 73) := ⟨_, rfl⟩
        have BV : Below wr.heap.size wr V := by rw [hV]; exact (Below.refl _ _).alloc (Nat.le_refl _) _
        have hVs : V.heap.size = wr.heap.size + 1 := by rw [hV]; simp
        have HOV : Hid (OBx V wr.heap.size o (.slice f o.field.length fc)) := by rw [hV]; exact heap_alloc_new wr _
        have HIV : Hid (CG W V W.heap.size g (grOf H) vo x1 c1 x3 c3 fs j) := cg_later HI.out hbs BV
        have HTV : Hid (Tri V g vo (.slice x1 H.weaks.length c1) (.slice x3 H.sites.length c3)) := HTR.out.later BV
        have hBV : W.heap.size ≤ V.heap.size := by omega
        have hgV : g < V.heap.size := by omega
        clear BV HI HTR
        go_wp2
        rw [← hV]
        clear hV d0 d1 d2 d3 d4 d5 d6 d7 p0
        generalize wr.heap.size = b at *
        refine wp_region_step 20 (by kernel_rfl) (by kernel_rfl) (GJ W V W.heap.size g b 18 o (.slice f o.field.length fc) vo (.slice x1 H.weaks.length c1) (.slice x3 H.sites.length c3)) (RN W W.heap.size g b V.heap.size o f fc vo (grOf H) x1 c1 x3 c3 fs j) (fun _ _ _ _ => True) ⟨HIV.out.bel.drew, Nat.le_refl _, HOV.out, HTV.out, fun _ => (Below.refl _ _).drew⟩ ?_ ?_
        · intro i o_ hi ho a X dn hJ hA hbn hnot hdep
          have hBX : W.heap.size ≤ X.heap.size := Nat.le_trans hBV hJ.ge
          match i, hi, ho with
          | 0, _, ho =>
            obtain rfl := Option.some.inj ho
            exact opFieldG0 (alike_at hA (t := 3) (by kernel_rfl)) ⟨_, rfl, hJ.later (by decide) hBX (Below.refl _ _), rfl, fun q hq _ t ht => ⟨hbn.yields q hq t ht, trivial, trivial⟩⟩
          | 1, _, ho =>
            obtain rfl := Option.some.inj ho
            have e1 : a.eval (.tmp 27) = .pointer (some ⟨g, 0, none⟩) := hbn.yields 0 (hdep ⟨0, .data⟩ (by simp) rfl) 27 rfl
            exact opLoadNs e1 (hJ.tri.cell 0) ⟨_, rfl, hJ.later (by decide) hBX (Below.refl _ _), rfl, fun q hq _ t ht => ⟨hbn.yields q hq t ht, trivial, trivial⟩⟩
          | 2, _, ho =>
            obtain rfl := Option.some.inj ho
            exact opFieldOb 0 (by omega) (alike_at hA (t := 5) (by kernel_rfl)) ⟨_, rfl, hJ.later (by decide) hBX (Below.refl _ _), rfl, fun q hq _ t ht => ⟨hbn.yields q hq t ht, trivial, trivial⟩⟩
          | 3, _, ho =>
            obtain rfl := Option.some.inj ho
            have e1 : a.eval (.tmp 29) = .pointer (some ⟨b, 0, none⟩) := hbn.yields 2 (hdep ⟨2, .data⟩ (by simp) rfl) 29 rfl
            exact opLoadBo e1 (hJ.box.cell 0) ⟨_, rfl, hJ.later (by decide) hBX (Below.refl _ _), rfl, fun q hq _ t ht => ⟨hbn.yields q hq t ht, trivial, trivial⟩⟩
          | 4, _, ho =>
            obtain rfl := Option.some.inj ho
            exact opFieldOb 1 (by omega) (alike_at hA (t := 5) (by kernel_rfl)) ⟨_, rfl, hJ.later (by decide) hBX (Below.refl _ _), rfl, fun q hq _ t ht => ⟨hbn.yields q hq t ht, trivial, trivial⟩⟩
          | 5, _, ho =>
            obtain rfl := Option.some.inj ho
            have e1 : a.eval (.tmp 31) = .pointer (some ⟨b, 1, none⟩) := hbn.yields 4 (hdep ⟨4, .data⟩ (by simp) rfl) 31 rfl
            exact opLoadInt e1 (hJ.box.cell 1) ⟨_, rfl, hJ.later (by decide) hBX (Below.refl _ _), rfl, fun q hq _ t ht => ⟨hbn.yields q hq t ht, trivial, trivial⟩⟩
          | 6, _, ho =>
            obtain rfl := Option.some.inj ho
            exact opFieldOb 2 (by omega) (alike_at hA (t := 5) (by kernel_rfl)) ⟨_, rfl, hJ.later (by decide) hBX (Below.refl _ _), rfl, fun q hq _ t ht => ⟨hbn.yields q hq t ht, trivial, trivial⟩⟩
          | 7, _, ho =>
            obtain rfl := Option.some.inj ho
            have e1 : a.eval (.tmp 33) = .pointer (some ⟨b, 2, none⟩) := hbn.yields 6 (hdep ⟨6, .data⟩ (by simp) rfl) 33 rfl
            exact opLoadInt e1 (hJ.box.cell 2) ⟨_, rfl, hJ.later (by decide) hBX (Below.refl _ _), rfl, fun q hq _ t ht => ⟨hbn.yields q hq t ht, trivial, trivial⟩⟩
          | 8, _, ho =>
            obtain rfl := Option.some.inj ho
            exact opFieldOb 3 (by omega) (alike_at hA (t := 5) (by kernel_rfl)) ⟨_, rfl, hJ.later (by decide) hBX (Below.refl _ _), rfl, fun q hq _ t ht => ⟨hbn.yields q hq t ht, trivial, trivial⟩⟩
          | 9, _, ho =>
            obtain rfl := Option.some.inj ho
            have e1 : a.eval (.tmp 35) = .pointer (some ⟨b, 3, none⟩) := hbn.yields 8 (hdep ⟨8, .data⟩ (by simp) rfl) 35 rfl
            exact opLoadInt e1 (hJ.box.cell 3) ⟨_, rfl, hJ.later (by decide) hBX (Below.refl _ _), rfl, fun q hq _ t ht => ⟨hbn.yields q hq t ht, trivial, trivial⟩⟩
          | 10, _, ho =>
            obtain rfl := Option.some.inj ho
            exact opFieldOb 4 (by omega) (alike_at hA (t := 5) (by kernel_rfl)) ⟨_, rfl, hJ.later (by decide) hBX (Below.refl _ _), rfl, fun q hq _ t ht => ⟨hbn.yields q hq t ht, trivial, trivial⟩⟩
          | 11, _, ho =>
            obtain rfl := Option.some.inj ho
            have e1 : a.eval (.tmp 37) = .pointer (some ⟨b, 4, none⟩) := hbn.yields 10 (hdep ⟨10, .data⟩ (by simp) rfl) 37 rfl
            exact opLoadInt e1 (hJ.box.cell 4) ⟨_, rfl, hJ.later (by decide) hBX (Below.refl _ _), rfl, fun q hq _ t ht => ⟨hbn.yields q hq t ht, trivial, trivial⟩⟩
          | 12, _, ho =>
            obtain rfl := Option.some.inj ho
            have bX : Below X.heap.size X (X.alloc (.cells #[] 3)) := (Below.refl _ _).alloc (Nat.le_refl _) _
            exact opNewI ⟨_, rfl, hJ.later (by decide) hBX bX, ⟨X.heap.size, rfl, hJ.ge, fresh_at X _⟩, fun q hq _ t ht => ⟨rn_mono q _ (hbn.yields q hq t ht) bX hBX, trivial, trivial⟩⟩
          | 13, _, ho =>
            obtain rfl := Option.some.inj ho
            exact opFieldOb 6 (by omega) (alike_at hA (t := 5) (by kernel_rfl)) ⟨_, rfl, hJ.later (by decide) hBX (Below.refl _ _), rfl, fun q hq _ t ht => ⟨hbn.yields q hq t ht, trivial, trivial⟩⟩
          | 14, _, ho =>
            obtain rfl := Option.some.inj ho
            have e1 : a.eval (.tmp 40) = .pointer (some ⟨b, 6, none⟩) := hbn.yields 13 (hdep ⟨13, .data⟩ (by simp) rfl) 40 rfl
            exact opLoadI e1 (hJ.box.cell 6) ⟨_, rfl, hJ.later (by decide) hBX (Below.refl _ _), rfl, fun q hq _ t ht => ⟨hbn.yields q hq t ht, trivial, trivial⟩⟩
          | 15, _, ho =>
            obtain rfl := Option.some.inj ho
            obtain ⟨q, e1, gq, hq⟩ := hbn.yields 12 (hdep ⟨12, .data⟩ (by simp) rfl) 39 rfl
            have e2 : a.eval (.tmp 41) = .slice f o.field.length fc := hbn.yields 14 (hdep ⟨14, .data⟩ (by simp) rfl) 41 rfl
            have hsrc := HRI.out.later hJ.bel
            exact wp_append_fresh elI _ _ rfl q V.heap.size hq gq f o.field.length fc _ e1 e2 hsrc (by omega) (by omega) (fun v' w' r bb _ => ⟨_, rfl, hJ.later (by decide) hBX bb, r, fun q hq _ t ht => ⟨rn_mono q _ (hbn.yields q hq t ht) bb hBX, trivial, trivial⟩⟩)
          | 16, _, ho =>
            obtain rfl := Option.some.inj ho
            have v0 : a.eval (.tmp 30) = .bool o.live := hbn.yields 3 (hdep ⟨3, .data⟩ (by simp) rfl) 30 rfl
            have v1 : a.eval (.tmp 32) = .int .i64 o.gen := hbn.yields 5 (hdep ⟨5, .data⟩ (by simp) rfl) 32 rfl
            have v2 : a.eval (.tmp 34) = .int .i64 o.site := hbn.yields 7 (hdep ⟨7, .data⟩ (by simp) rfl) 34 rfl
            have v3 : a.eval (.tmp 36) = .int .i64 o.holds := hbn.yields 9 (hdep ⟨9, .data⟩ (by simp) rfl) 36 rfl
            have v4 : a.eval (.tmp 38) = .int .i64 o.roots := hbn.yields 11 (hdep ⟨11, .data⟩ (by simp) rfl) 38 rfl
            have r5 : X.ownsRow V.heap.size 3 1 (a.eval (.tmp 42)) o.field.length (o.field.map intV) := hbn.yields 15 (hdep ⟨15, .data⟩ (by simp) rfl) 42 rfl
            obtain ⟨x, c, e5, _⟩ := row_form r5
            rw [e5] at r5
            exact opBuildNd v0 v1 v2 v3 v4 e5 ⟨_, rfl, hJ.later (by decide) hBX (Below.refl _ _), ⟨x, c, rfl, r5⟩, fun q hq _ t ht => ⟨hbn.yields q hq t ht, trivial, trivial⟩⟩
          | 17, _, ho =>
            obtain rfl := Option.some.inj ho
            obtain ⟨x, c, e1, r1⟩ := hbn.yields 16 (hdep ⟨16, .data⟩ (by simp) rfl) 43 rfl
            have bX : Below X.heap.size X (X.alloc (.cells #[.bool o.live, .int .i64 o.gen, .int .i64 o.site, .int .i64 o.holds, .int .i64 o.roots, .slice x o.field.length c] 54)) := (Below.refl _ _).alloc (Nat.le_refl _) _
            exact opNew1N e1 ⟨_, rfl, hJ.later (by decide) hBX bX, ⟨X.heap.size, x, c, rfl, hJ.ge, heap_alloc_new X _, row_later r1 bX⟩, fun q hq _ t ht => ⟨rn_mono q _ (hbn.yields q hq t ht) bX hBX, trivial, trivial⟩⟩
          | 18, _, ho =>
            obtain rfl := Option.some.inj ho
            have e1 : a.eval (.tmp 28) = vo := hbn.yields 1 (hdep ⟨1, .data⟩ (by simp) rfl) 28 rfl
            obtain ⟨q, x, c, e2, gq, hq, r1⟩ := hbn.yields 17 (hdep ⟨17, .data⟩ (by simp) rfl) 44 rfl
            have hpre := hJ.pre hnot
            have hX := cg_later HIV.out hBV hpre
            have hlv : ∀ k, vo.ownBlock = some k → k < V.heap.size := fun k hk => (World.ownsRow.lt HIV.out.ro k hk).2
            have htl : ∀ y, x = some y → V.heap.size ≤ y.block := fun y hy => (World.ownsRow.lt r1 _ (own_block hy)).1
            have hrb : ∀ k, RB x1 x3 fs k → k < V.heap.size := fun k hk => (HIV.out.bl k hk).2
            refine wp_appendN _ _ rfl W.heap.size vo j _ e1 hX.ro q (ndOf o, ⟨x, o.field.length, c⟩) e2 hq (by omega) hBX ?_
            intro v' X' r6 g6 hat
            refine ⟨_, rfl, ⟨hJ.bel.grown g6 hBX (fun k hk => (World.ownsRow.lt hX.ro k hk).1), Nat.le_trans hJ.ge g6.size, (g6.block b hJ.box.lt (fun e => ?_)).trans hJ.box, hJ.tri.same (g6.block g hJ.tri.lt (fun e => HIV.out.ngv e.symm)), fun hn => absurd (.inr rfl) hn⟩, ⟨⟨x, o.field.length, c⟩, ?_⟩, fun k hk hne t ht => ⟨rn_same k hne _ (hbn.yields k hk t ht) (fun m hm hl => g6.block m hl (fun e => by have := hlv m e.symm; omega)), trivial, trivial⟩⟩
            · exact kind_ne (row_kind hX.ro b e.symm).choose_spec hJ.box (by decide) rfl
            · refine cg_step hX hBX hJ.tri.lt hjg ⟨x, o.field.length, c⟩ (by rw [HND.out]; rfl) (by rw [HND.out]; exact row_mono r1 hBV) (fun y hy e => by have := hlv _ e; have := htl y hy; omega) (fun y hy => by have := htl y hy; omega) (fun y z hy hz e => by have := hrb y.block (.inl ⟨y, hy, rfl⟩); have := htl z hz; omega) (fun y z hy hz e => by have := hrb y.block (.inr (.inl ⟨y, hy, rfl⟩)); have := htl z hz; omega) (fun u hu y z hy hz e => by have := hrb y.block (.inr (.inr ⟨u, hu, y, hy, rfl⟩)); have := htl z hz; omega) (by rw [HND.out]; exact r6) g6 hat
          | 19, _, ho =>
            obtain rfl := Option.some.inj ho
            exact opFieldG0 (alike_at hA (t := 3) (by kernel_rfl)) ⟨_, rfl, hJ.later (by decide) hBX (Below.refl _ _), rfl, fun q hq _ t ht => ⟨hbn.yields q hq t ht, trivial, trivial⟩⟩
          | n + 20, hi, _ => exact absurd hi (by omega)
        · intro o_ ho a X dn hJ hA hbn hdn
          obtain rfl := Option.some.inj ho
          obtain ⟨t, hCG⟩ := hbn.yields 18 (hdn 18 (by omega)) 45 rfl
          have e1 : a.eval (.tmp 46) = .pointer (some ⟨g, 0, none⟩) := hbn.yields 19 (hdn 19 (by omega)) 46 rfl
          obtain ⟨oa2, oc2, e2, -⟩ := row_form hCG.ro
          rw [e2] at hCG
          refine opStoreNs e1 e2 (hJ.tri.cell 0) (hJ.tri.frozen 0) ?_
          have HCN : Hid _ := cg_set hCG (Nat.le_trans gB (Nat.le_refl _)) 0 (.slice oa2 (j + 1) oc2)
          have HTN : Hid _ := hJ.tri.set0 (.slice oa2 (j + 1) oc2)
          obtain ⟨us, hus, rfl⟩ := alike_tmps hA [27, 28, 29, 30, 31, 32, 33, 34, 35, 36, 37, 38, 39, 40, 41, 42, 43, 44, 45, 46] (by kernel_rfl)
          clear hbn hdn hA hus e1 e2 hCG hJ ho
          generalize X.setCell ⟨g, 0, none⟩ (.slice oa2 (j + 1) oc2) = Z at *
          simp only [List.mapIdx_cons, List.mapIdx_nil, Nat.reduceAdd, List.contains_cons, List.contains_nil, Nat.reduceBEq, Bool.or_false, Bool.or_true, if_true, if_false, Bool.false_eq_true]
          go_wp2
          go_roundw
          case rel => exact ⟨j + 1, _, _, by go_num, by omega, HCN, HTN⟩
          case measure => simp [intOf]; omega
      · obtain rfl : j = H.objs.length := by omega
        obtain ⟨oa, oc, rfl, -⟩ := row_form HI.out.ro
        have HE : Hid (MemG wr W.heap.size ⟨oa, oc, fs, x1, H.weaks.length, c1, x3, H.sites.length, c3⟩ (grOf H)) := by
          have hh := HI.out
          rw [← HGL.out] at hh
          exact cg_end hh (by rw [HGL.out]; omega) (fun z hz => by
            obtain ⟨y, hy, rfl⟩ := List.mem_map.1 hz
            have := HFL.out y hy
            show y.field.length ≤ _
            omega) (by show H.weaks.length ≤ _; omega) (by show H.sites.length ≤ _; omega)
        have HFS : Hid (fs.length = H.objs.length) := HI.out.fl
        have XF := HTR.out
        have RF2 : Tri wr (w.heap.size + 1) (.slice none 0 0) (.slice none 0 0) (.slice none 0 0) := HFR.out.same (HI.out.bel.block (w.heap.size + 1) (by omega))
        have x0 := XF.cell 0
        have x1' := XF.cell 1
        have x2' := XF.cell 2
        have r0 := RF2.cell 0
        have r1 := RF2.cell 1
        have r2 := RF2.cell 2
        have z0 := RF2.frozen 0
        have z1 := RF2.frozen 1
        have z2 := RF2.frozen 2
        simp only [List.getElem?_toArray, List.getElem?_cons_zero, List.getElem?_cons_succ] at x0 x1' x2' r0 r1 r2
        have HBl : Hid (Below w.heap.size w wr) := HBW.out.trans (HI.out.bel.mono HBW.out.size)
        clear XF RF2 HI HTR
        go_wp2
        refine bodyPost_ret (v := .agg #[.slice oa H.objs.length oc, .slice x1 H.weaks.length c1, .slice x3 H.sites.length c3]) (by simp [results, Try.results16, go_sem, *]) rfl ⟨⟨oa, oc, fs, x1, H.weaks.length, c1, x3, H.sites.length, c3⟩, ?_, ?_, ?_⟩
        · rw [GSh.v]; simp only; rw [HFS.out]
        · refine memG_mono (memG_keepB HE.out ?_) (by omega)
          exact ((keepB_set _ _ ⟨w.heap.size + 1, 0, none⟩ _ (by simp only; omega)).trans (keepB_set _ _ ⟨w.heap.size + 1, 1, none⟩ _ (by simp only; omega))).trans (keepB_set _ _ ⟨w.heap.size + 1, 2, none⟩ _ (by simp only; omega))
        · iterate 3 refine Below.setCell ?_ (by simp only; omega) _
          exact HBl.out

end Go.Proofs.Ytjihbmkhifnblaa
