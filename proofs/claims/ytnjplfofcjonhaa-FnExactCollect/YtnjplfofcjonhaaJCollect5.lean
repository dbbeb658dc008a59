/- Texts of this claim, joined: part 5 of 6. -/
import Derived.Test.YtnjplfofcjonhaaJCollect4
import Derived.Deep.RegionHeld
import Derived.Maps.AppendAt
import Derived.Shelf.Strconv.Clone
import Derived.Test.YtnjplfofcjonhaaRows
import Derived.WalkKit
namespace Go.Proofs.Ytnjplfofcjonhaa
open Go.RowKit
set_option linter.unusedVariables false
set_option maxRecDepth 100000
def RD (B P : Nat) (oa : Option Addr) (on oc : Nat) (wa : Option Addr) (wn wc : Nat) (ia : Option Addr) (im ic : Nat) (sa : Option Addr) (sn sc : Nat) (NO NW NI NS : List Value) : Nat → World → Value → Prop
  | 0, X, v => v = .pointer (some ⟨P, 0, none⟩)
  | 1, X, v => v = .slice oa on oc
  | 2, X, v => X.ownsRow B 39 8 v on NO
  | 3, X, v => v = .pointer (some ⟨P, 1, none⟩)
  | 4, X, v => v = .slice wa wn wc
  | 5, X, v => X.ownsRow B 65 2 v wn NW
  | 6, X, v => v = .pointer (some ⟨P, 2, none⟩)
  | 7, X, v => v = .slice ia im ic
  | 8, X, v => X.ownsRow B 3 1 v im NI
  | 9, X, v => v = .pointer (some ⟨P, 3, none⟩)
  | 10, X, v => v = .slice sa sn sc
  | 11, X, v => X.ownsRow B 9 1 v sn NS
  | 12, X, v => ∃ x0 c0 x1 c1 x2 c2 x3 c3, v = .agg #[.slice x0 on c0, .slice x1 wn c1, .slice x2 im c2, .slice x3 sn c3] ∧ X.ownsRow B 39 8 (.slice x0 on c0) on NO ∧ X.ownsRow B 65 2 (.slice x1 wn c1) wn NW ∧ X.ownsRow B 3 1 (.slice x2 im c2) im NI ∧ X.ownsRow B 9 1 (.slice x3 sn c3) sn NS
  | 13, X, v => ∃ g, v = .pointer (some ⟨g, 0, none⟩) ∧ B ≤ g ∧ Four X g (.slice none 0 0) (.slice none 0 0) (.slice none 0 0) (.slice none 0 0)
  | _, _, _ => True
theorem rd_mono {B P : Nat} {oa : Option Addr} {on oc : Nat} {wa : Option Addr} {wn wc : Nat} {ia : Option Addr} {im ic : Nat} {sa : Option Addr} {sn sc : Nat} {NO NW NI NS : List Value} (i : Nat) (X Y : World) (v : Value) (h : RD B P oa on oc wa wn wc ia im ic sa sn sc NO NW NI NS i X v) (hb : Below X.heap.size X Y) : RD B P oa on oc wa wn wc ia im ic sa sn sc NO NW NI NS i Y v := by
  match i, h with
  | 0, h => exact h
  | 1, h => exact h
  | 2, h => exact row_later h hb
  | 3, h => exact h
  | 4, h => exact h
  | 5, h => exact row_later h hb
  | 6, h => exact h
  | 7, h => exact h
  | 8, h => exact row_later h hb
  | 9, h => exact h
  | 10, h => exact h
  | 11, h => exact row_later h hb
  | 12, ⟨x0, c0, x1, c1, x2, c2, x3, c3, h1, h2, h3, h4, h5⟩ => exact ⟨x0, c0, x1, c1, x2, c2, x3, c3, h1, row_later h2 hb, row_later h3 hb, row_later h4 hb, row_later h5 hb⟩
  | 13, ⟨g, h1, h2, h3⟩ => exact ⟨g, h1, h2, h3.later hb⟩
  | n + 14, _ => exact trivial
set_option maxHeartbeats 4000000 in
theorem iCopy_calls (v : Value) (H : HeapD) (w : World) (h : RdH w v H) (hs : SmallH H) :
    Calls Try.prog 33 #[v] w fun e w' => ∃ s : HSh, e = .returned s.v ∧ HM w' w.heap.size s H ∧ Below w.heap.size w w' := by
  obtain ⟨ao, co, aw, cw, ab, cb, sa, sc, rfl, ro, rwk, ri, rs⟩ := h
  have l0 := hs.objs
  have l1 := hs.weaks
  have l2 := hs.buffer
  have l3 := hs.sites
  obtain ⟨W, hW⟩ : ∃ W, W = (w.alloc (.cells #[.slice ao H.objs.length co, .slice aw H.weaks.length cw, .slice ab H.buffer.length cb, .slice sa H.sites.length sc] 29)).alloc (.cells #[.slice none 0 0, .slice none 0 0, .slice none 0 0, .slice none 0 0] 29) := ⟨_, rfl⟩
  have BW : Below w.heap.size w W := by rw [hW]; exact ((Below.refl _ _).alloc (Nat.le_refl _) _).alloc (by simp) _
  have hWs : W.heap.size = w.heap.size + 2 := by rw [hW]; simp
  have FP : Four W w.heap.size (.slice ao H.objs.length co) (.slice aw H.weaks.length cw) (.slice ab H.buffer.length cb) (.slice sa H.sites.length sc) := by
    have f1 := Four.new w (.slice ao H.objs.length co) (.slice aw H.weaks.length cw) (.slice ab H.buffer.length cb) (.slice sa H.sites.length sc)
    have hb2 : Below (w.heap.size + 1) (w.alloc (.cells #[.slice ao H.objs.length co, .slice aw H.weaks.length cw, .slice ab H.buffer.length cb, .slice sa H.sites.length sc] 29)) W := by rw [hW]; exact (Below.refl _ _).alloc (by simp) _
    exact (hb2.block w.heap.size (by omega)).trans f1
  have FR : Four W (w.heap.size + 1) (.slice none 0 0) (.slice none 0 0) (.slice none 0 0) (.slice none 0 0) := by
    rw [hW]
    have f1 := Four.new (w.alloc (.cells #[.slice ao H.objs.length co, .slice aw H.weaks.length cw, .slice ab H.buffer.length cb, .slice sa H.sites.length sc] 29)) (.slice none 0 0) (.slice none 0 0) (.slice none 0 0) (.slice none 0 0)
    simpa using f1
  obtain ⟨fs0, fl0, ff0, so⟩ := srcO (rdO_later ro BW)
  have HSO : Hid (SrcC W ao H.objs.length 8 ((H.objs.zip fs0).flatMap cellsOb)) := so
  have HF0 : Hid (∀ j (h1 : j < H.objs.length) (h2 : j < fs0.length), fs0[j].n = H.objs[j].field.length ∧ RdI W fs0[j].f H.objs[j].field) := ff0
  have HL0 : Hid (fs0.length = H.objs.length) := fl0
  have HSW : Hid (SrcC W aw H.weaks.length 2 (H.weaks.flatMap cellsW)) := (srcW rwk).later BW
  have HSI : Hid (SrcC W ab H.buffer.length 1 (H.buffer.map intV)) := (srcI ri).later BW
  have HSS : Hid (SrcC W sa H.sites.length 1 (H.sites.map strV)) := (srcS rs).later BW
  have HFP : Hid (Four W w.heap.size (.slice ao H.objs.length co) (.slice aw H.weaks.length cw) (.slice ab H.buffer.length cb) (.slice sa H.sites.length sc)) := FP
  have HFR : Hid (Four W (w.heap.size + 1) (.slice none 0 0) (.slice none 0 0) (.slice none 0 0) (.slice none 0 0)) := FR
  have HFL : Hid (∀ z ∈ H.objs, z.field.length ≤ 1048576) := hs.fields
  have HNM : Hid (∀ z ∈ H.sites, z.length ≤ 1048576) := hs.names
  have HBW : Hid (Below w.heap.size w W) := BW
  have HWs : Hid (W.heap.size = w.heap.size + 2) := hWs
  clear ro rwk ri rs FP FR hs BW so ff0 fl0
  go_enter Try.func33, Try.ntmps33
  go_wp2
  rw [← hW]
  clear hW
  refine wp_region_last 14 (by kernel_rfl) (by kernel_rfl) (RD W.heap.size w.heap.size ao H.objs.length co aw H.weaks.length cw ab H.buffer.length cb sa H.sites.length sc ((H.objs.zip fs0).flatMap cellsOb) (H.weaks.flatMap cellsW) (H.buffer.map intV) (H.sites.map strV)) rd_mono ?_ ?_
  · intro i o hi ho a X hX hA hdep
    have FX := HFP.out.later hX
    have hXs := hX.size
    match i, hi, ho with
    | 0, _, ho =>
      obtain rfl := Option.some.inj ho
      exact opField 0 (by omega) (alike_at hA (t := 1) (by kernel_rfl)) ⟨_, rfl, Below.refl _ _, rfl⟩
    | 1, _, ho =>
      obtain rfl := Option.some.inj ho
      have e1 : a.eval (.tmp 6) = .pointer (some ⟨w.heap.size, 0, none⟩) := hdep ⟨0, .data⟩ (by simp) rfl 6 rfl
      exact opLoadO e1 (FX.cell 0) ⟨_, rfl, Below.refl _ _, rfl⟩
    | 2, _, ho =>
      obtain rfl := Option.some.inj ho
      have e1 : a.eval (.tmp 7) = .slice ao H.objs.length co := hdep ⟨1, .data⟩ (by simp) rfl 7 rfl
      exact opCallO e1 (cloneO_calls X ao H.objs.length co _ (HSO.out.later hX) (by omega)) (fun e w' ⟨x, h1, h2, h3⟩ => ⟨x, h1, _, rfl, h3, row_mono h2 hXs⟩)
    | 3, _, ho =>
      obtain rfl := Option.some.inj ho
      exact opField 1 (by omega) (alike_at hA (t := 1) (by kernel_rfl)) ⟨_, rfl, Below.refl _ _, rfl⟩
    | 4, _, ho =>
      obtain rfl := Option.some.inj ho
      have e1 : a.eval (.tmp 9) = .pointer (some ⟨w.heap.size, 1, none⟩) := hdep ⟨3, .data⟩ (by simp) rfl 9 rfl
      exact opLoadW e1 (FX.cell 1) ⟨_, rfl, Below.refl _ _, rfl⟩
    | 5, _, ho =>
      obtain rfl := Option.some.inj ho
      have e1 : a.eval (.tmp 10) = .slice aw H.weaks.length cw := hdep ⟨4, .data⟩ (by simp) rfl 10 rfl
      exact opCallW e1 (cloneW_calls X aw H.weaks.length cw _ (HSW.out.later hX) (by omega)) (fun e w' ⟨x, h1, h2, h3⟩ => ⟨x, h1, _, rfl, h3, row_mono h2 hXs⟩)
    | 6, _, ho =>
      obtain rfl := Option.some.inj ho
      exact opField 2 (by omega) (alike_at hA (t := 1) (by kernel_rfl)) ⟨_, rfl, Below.refl _ _, rfl⟩
    | 7, _, ho =>
      obtain rfl := Option.some.inj ho
      have e1 : a.eval (.tmp 12) = .pointer (some ⟨w.heap.size, 2, none⟩) := hdep ⟨6, .data⟩ (by simp) rfl 12 rfl
      exact opLoadI e1 (FX.cell 2) ⟨_, rfl, Below.refl _ _, rfl⟩
    | 8, _, ho =>
      obtain rfl := Option.some.inj ho
      have e1 : a.eval (.tmp 13) = .slice ab H.buffer.length cb := hdep ⟨7, .data⟩ (by simp) rfl 13 rfl
      exact opCallI e1 (cloneI_calls X ab H.buffer.length cb _ (HSI.out.later hX) (by omega)) (fun e w' ⟨x, h1, h2, h3⟩ => ⟨x, h1, _, rfl, h3, row_mono h2 hXs⟩)
    | 9, _, ho =>
      obtain rfl := Option.some.inj ho
      exact opField 3 (by omega) (alike_at hA (t := 1) (by kernel_rfl)) ⟨_, rfl, Below.refl _ _, rfl⟩
    | 10, _, ho =>
      obtain rfl := Option.some.inj ho
      have e1 : a.eval (.tmp 15) = .pointer (some ⟨w.heap.size, 3, none⟩) := hdep ⟨9, .data⟩ (by simp) rfl 15 rfl
      exact opLoadS e1 (FX.cell 3) ⟨_, rfl, Below.refl _ _, rfl⟩
    | 11, _, ho =>
      obtain rfl := Option.some.inj ho
      have e1 : a.eval (.tmp 16) = .slice sa H.sites.length sc := hdep ⟨10, .data⟩ (by simp) rfl 16 rfl
      exact opCallS e1 (cloneS_calls X sa H.sites.length sc _ (HSS.out.later hX) (by omega)) (fun e w' ⟨x, h1, h2, h3⟩ => ⟨x, h1, _, rfl, h3, row_mono h2 hXs⟩)
    | 12, _, ho =>
      obtain rfl := Option.some.inj ho
      have r0 : X.ownsRow W.heap.size 39 8 (a.eval (.tmp 8)) H.objs.length ((H.objs.zip fs0).flatMap cellsOb) := hdep ⟨2, .data⟩ (by simp) rfl 8 rfl
      have r1 : X.ownsRow W.heap.size 65 2 (a.eval (.tmp 11)) H.weaks.length (H.weaks.flatMap cellsW) := hdep ⟨5, .data⟩ (by simp) rfl 11 rfl
      have r2 : X.ownsRow W.heap.size 3 1 (a.eval (.tmp 14)) H.buffer.length (H.buffer.map intV) := hdep ⟨8, .data⟩ (by simp) rfl 14 rfl
      have r3 : X.ownsRow W.heap.size 9 1 (a.eval (.tmp 17)) H.sites.length (H.sites.map strV) := hdep ⟨11, .data⟩ (by simp) rfl 17 rfl
      obtain ⟨x0, c0, e0, _⟩ := row_form r0
      obtain ⟨x1, c1, e1, _⟩ := row_form r1
      obtain ⟨x2, c2, e2, _⟩ := row_form r2
      obtain ⟨x3, c3, e3, _⟩ := row_form r3
      rw [e0] at r0
      rw [e1] at r1
      rw [e2] at r2
      rw [e3] at r3
      exact opBuild4 e0 e1 e2 e3 ⟨_, rfl, Below.refl _ _, x0, c0, x1, c1, x2, c2, x3, c3, rfl, r0, r1, r2, r3⟩
    | 13, _, ho =>
      obtain rfl := Option.some.inj ho
      exact opAlloc ⟨_, rfl, (Below.refl _ _).alloc (Nat.le_refl _) _, X.heap.size, rfl, hXs, Four.new X _ _ _ _⟩
  · intro o ho a X hX hA hdep
    obtain rfl := Option.some.inj ho
    obtain ⟨g, e1, gB, hf⟩ := hdep ⟨13, .data⟩ (by simp) rfl 3 rfl
    obtain ⟨x0, c0, x1, c1, x2, c2, x3, c3, e2, r0, r1, r2, r3⟩ := hdep ⟨12, .data⟩ (by simp) rfl 18 rfl
    refine opStoreH e1 e2 hf ?_
    obtain ⟨us, hus, rfl⟩ := alike_tmps hA [6, 7, 8, 9, 10, 11, 12, 13, 14, 15, 16, 17, 18, 3] (by kernel_rfl)
    have e3 : us 3 = .pointer (some ⟨g, 0, none⟩) := (hus 3).symm.trans e1
    have HC : Hid (DI W (setFour X g (.slice x0 H.objs.length c0) (.slice x1 H.weaks.length c1) (.slice x2 H.buffer.length c2) (.slice x3 H.sites.length c3)) W.heap.size g H x0 c0 x1 c1 x2 c2 x3 c3 fs0 0) := by
      have ne : ∀ {n sz : Nat} {e : TypeId} {v : Value} {xs : List Value}, X.ownsRow W.heap.size e sz v n xs → e ≠ 29 → (setFour X g (.slice x0 H.objs.length c0) (.slice x1 H.weaks.length c1) (.slice x2 H.buffer.length c2) (.slice x3 H.sites.length c3)).ownsRow W.heap.size e sz v n xs := fun hr hne => row_same hr (fun i hi => by
        obtain ⟨cur, hc⟩ := row_kind hr i hi
        exact setFour_other _ _ _ _ _ _ i (kind_ne hc hf hne))
      have r0' := ne r0 (by decide)
      refine ⟨?_, hf.setAll _ _ _ _, gB, fun y hy => ?_, HL0.out, row_objs HL0.out r0', ne r1 (by decide), ne r2 (by decide), ne r3 (by decide), fun i hi hi2 => (HF0.out i hi hi2).1, fun i _ _ hi => absurd hi (Nat.not_lt_zero _), fun i hi hi2 _ => (HF0.out i hi hi2).2, fun a b _ _ _ hb => absurd hb (Nat.not_lt_zero _), fun i _ hi => absurd hi (Nat.not_lt_zero _)⟩
      · unfold setFour
        exact (((hX.setCell gB _).setCell gB _).setCell gB _).setCell gB _
      · obtain ⟨hb1, hb2⟩ := row_block r0' y hy
        exact ⟨hb1, hb2, row_kind r0' _ (own_block hy)⟩
    clear hdep hA hus e1 e2 hf r0 r1 r2 r3 ho HF0 HL0 HSO HSW HSI HSS HFP
    generalize setFour X g (.slice x0 H.objs.length c0) (.slice x1 H.weaks.length c1) (.slice x2 H.buffer.length c2) (.slice x3 H.sites.length c3) = Y at *
    simp only [List.mapIdx_cons, List.mapIdx_nil, Nat.reduceAdd, List.contains_cons, List.contains_nil, Nat.reduceBEq, Bool.or_false, Bool.or_true, if_true, if_false, Bool.false_eq_true, e3]
    clear e3
    have y0 := HC.out.x.cell 0
    simp only [List.getElem?_toArray, List.getElem?_cons_zero] at y0
    go_wp2
    clear y0
    go_loopw [22] (fun i wr => ∃ (j : Nat) (fs : List OSh), i = .int .i64 (j : Int) ∧ j ≤ H.objs.length ∧ Hid (DI W wr W.heap.size g H x0 c0 x1 c1 x2 c2 x3 c3 fs j)) (fun i _ => H.objs.length - (intOf i).toNat)
    case atStart => exact ⟨0, fs0, rfl, Nat.zero_le _, HC⟩
    case round =>
      clear HC
      obtain ⟨j, fs, rfl, hjl, HI⟩ := hrel
      have hbs := HI.out.bel.size
      have hgl := HI.out.x.lt
      by_cases hlt : j < H.objs.length
      · have hj2 : j < fs.length := by rw [HI.out.fl]; exact hlt
        obtain ⟨go, rfl, hob, hfz⟩ := HI.out.o j hlt hj2
        have hfl := HFL.out _ (List.getElem_mem hlt)
        obtain ⟨-, hgo, cuo, hko⟩ := HI.out.og _ rfl
        simp only at hgo hko
        have hgg : go ≠ g := kind_ne hko HI.out.x (by decide)
        clear hko
        have HST : Hid (∀ (w1 : World) (t : OSh), Below wr.heap.size wr w1 → t.n = H.objs[j].field.length → ownI w1 wr.heap.size (.slice t.f t.n t.c) H.objs[j].field → DI W (w1.setCell ⟨go, j * 8 + 6, none⟩ (.slice t.f t.n t.c)) W.heap.size g H (some ⟨go, 0, none⟩) c0 x1 c1 x2 c2 x3 c3 (fs.set j t) (j + 1)) :=
          fun w1 t b1 hn ht => di_step HI.out hbs hlt b1 go rfl t hn ht
        have hnn := HI.out.nn j hlt hj2
        have HSR : Hid (∀ X, Below wr.heap.size wr X → SrcC X fs[j].f fs[j].n 1 (H.objs[j].field.map intV)) := fun X hX => by
          rw [hnn]; exact ((srcI (HI.out.src j hlt hj2 (Nat.le_refl _))).later HI.out.bel).later hX
        have HC6 : Hid (∀ X, Below wr.heap.size wr X → X.cell? ⟨g, 0, none⟩ = some (.slice (some ⟨go, 0, none⟩) H.objs.length c0) ∧ X.cell? ⟨go, j * 8 + 6, none⟩ = some (.slice fs[j].f fs[j].n fs[j].c) ∧ X.frozen? ⟨go, j * 8 + 6, none⟩ = false) := fun X hX =>
          ⟨(hX.cell (p := ⟨g, 0, none⟩) hgl).trans (HI.out.x.cell 0), (hX.cell (p := ⟨go, j * 8 + 6, none⟩) hgo).trans hob.c6, (hX.frozen (p := ⟨go, j * 8 + 6, none⟩) hgo).trans (hfz 6 (by omega))⟩
        have HCL : Hid (∀ X, Below wr.heap.size wr X → _) := fun X hX => cloneI_calls X fs[j].f fs[j].n fs[j].c _ (HSR.out X hX) (by rw [hnn]; omega)
        rw [hnn] at HCL HC6
        generalize fs[j].f = f at HCL HC6
        generalize fs[j].c = fc at HCL HC6
        generalize H.objs[j].field = fd at HCL HC6 HST hfl
        clear hob hfz HI HSR hnn
        have D1 : Below wr.heap.size wr wr.drew := (Below.refl _ _).drew
        obtain ⟨k0, k1, k2⟩ := HC6.out _ (Below.refl _ _)
        have hi0 : (0 : Int) ≤ (j : Int) := by omega
        have hi1 : (j : Int) < (H.objs.length : Int) := by omega
        go_wp2
        go_region_with (go_at_call 36; refine (HCL.out _ D1).mono ?_; rintro e w1 ⟨x, rfl, r1, b1⟩; (have B1 := D1.trans (b1.mono D1.size)); (obtain ⟨m0, m1, m2⟩ := HC6.out _ B1); (obtain ⟨f1, d1, rfl, -⟩ := row_form r1))
        all_goals
          have HN : Hid _ := HST.out w1 ⟨f1, fd.length, d1⟩ B1 rfl (row_mono r1 D1.size)
          clear HST HCL HC6 r1 b1 m0 m1 m2 k0 k1 k2
          go_wp2
          go_roundw
          case rel => exact ⟨j + 1, _, by go_num, by omega, HN⟩
          case measure => simp [intOf]; omega
      · obtain rfl : j = H.objs.length := by omega
        have HE : Hid (HM wr W.heap.size ⟨x0, c0, fs, x1, H.weaks.length, c1, x2, H.buffer.length, c2, x3, H.sites.length, c3⟩ H) := di_end HI.out
        have HX : Hid (Four wr g (.slice x0 H.objs.length c0) (.slice x1 H.weaks.length c1) (.slice x2 H.buffer.length c2) (.slice x3 H.sites.length c3)) := HI.out.x
        have HB1 : Hid (Below W.heap.size W wr) := HI.out.bel
        have y3 := HX.out.cell 3
        simp only [List.getElem?_toArray, List.getElem?_cons_zero, List.getElem?_cons_succ] at y3
        clear HI
        obtain ⟨Z, hZ⟩ : ∃ Z, Z = wr := ⟨_, rfl⟩
        rw [← hZ] at HE HX HB1 y3 ⊢
        clear hZ hbs hgl
        go_wp2
        clear y3
        go_loopw [41] (fun i wr => ∃ j : Nat, i = .int .i64 (j : Int) ∧ j ≤ H.sites.length ∧ Hid (HM wr W.heap.size ⟨x0, c0, fs, x1, H.weaks.length, c1, x2, H.buffer.length, c2, x3, H.sites.length, c3⟩ H) ∧ Hid (Four wr g (.slice x0 H.objs.length c0) (.slice x1 H.weaks.length c1) (.slice x2 H.buffer.length c2) (.slice x3 H.sites.length c3)) ∧ Hid (Below W.heap.size W wr)) (fun i _ => H.sites.length - (intOf i).toNat)
        case atStart => exact ⟨0, rfl, Nat.zero_le _, HE, HX, HB1⟩
        case round =>
          clear HE HX HB1
          obtain ⟨j, rfl, hjs, HE, HX, HB1⟩ := hrel
          have hbs := HB1.out.size
          have hgl := HX.out.lt
          by_cases hlt : j < H.sites.length
          · obtain ⟨gs, off, rfl, hgs, hcs⟩ := (hm_parts HE.out).2.2.2 j hlt
            have hoff : off = 0 := by
              rcases ownS_form HE.out.st with ⟨e, _⟩ | ⟨g2, cap, e, _⟩
              · simp only [Value.slice.injEq] at e; exact absurd e.1 (by simp)
              · simp only [Value.slice.injEq, Option.some.injEq, Addr.mk.injEq] at e; exact e.1.2.1
            subst hoff
            rw [Nat.zero_add] at hcs
            have hnm := HNM.out _ (List.getElem_mem hlt)
            have hfz : wr.frozen? ⟨gs, j, none⟩ = false := by
              rcases ownS_form HE.out.st with ⟨e, _⟩ | ⟨g2, cap, e, _, _, _, _, hc⟩
              · simp only [Value.slice.injEq] at e; exact absurd e.1 (by simp)
              · simp only [Value.slice.injEq, Option.some.injEq, Addr.mk.injEq] at e
                rw [e.1.1]; exact (hc.out j hlt).2
            have hgg : gs ≠ g := by
              obtain ⟨cur, hk⟩ := row_kind HE.out.st gs rfl
              exact kind_ne hk HX.out (by decide)
            have HN : Hid (∀ w1, Below wr.heap.size wr w1 → HM (w1.setCell ⟨gs, j, none⟩ (.string (txt H.sites[j]))) W.heap.size _ H ∧ Four (w1.setCell ⟨gs, j, none⟩ (.string (txt H.sites[j]))) g (.slice x0 H.objs.length c0) (.slice x1 H.weaks.length c1) (.slice x2 H.buffer.length c2) (.slice (some ⟨gs, 0, none⟩) H.sites.length c3) ∧ Below W.heap.size W (w1.setCell ⟨gs, j, none⟩ (.string (txt H.sites[j])))) := fun w1 b1 =>
              ⟨hm_site (hm_later HE.out b1) j hlt gs rfl, (HX.out.later b1).same (heap_setCell_other _ _ _ _ (by exact fun e => hgg e.symm)), (HB1.out.trans (b1.mono hbs)).setCell (by exact (ownS_lt HE.out.st gs rfl).1) _⟩
            have HC6 : Hid (∀ X, Below wr.heap.size wr X → X.cell? ⟨g, 3, none⟩ = some (.slice (some ⟨gs, 0, none⟩) H.sites.length c3) ∧ X.cell? ⟨gs, j, none⟩ = some (.string (txt H.sites[j])) ∧ X.frozen? ⟨gs, j, none⟩ = false) := fun X hX =>
              ⟨(hX.cell (p := ⟨g, 3, none⟩) hgl).trans (HX.out.cell 3), (hX.cell (p := ⟨gs, j, none⟩) hgs).trans hcs, (hX.frozen (p := ⟨gs, j, none⟩) hgs).trans hfz⟩
            have HCL : Hid (∀ X : World, _) := fun X => strClone_calls (txt H.sites[j]) X (by rw [txt_size]; omega)
            generalize txt H.sites[j] = tx at HCL HC6 HN
            clear hcs hfz HE HX HB1 hnm
            have D1 : Below wr.heap.size wr wr.drew := (Below.refl _ _).drew
            obtain ⟨k0, k1, k2⟩ := HC6.out _ (Below.refl _ _)
            have hi0 : (0 : Int) ≤ (j : Int) := by omega
            have hi1 : (j : Int) < (H.sites.length : Int) := by omega
            go_wp2
            go_region_held (fun X => X.cell? ⟨g, 3, none⟩ = some (.slice (some ⟨gs, 0, none⟩) H.sites.length c3) ∧ X.cell? ⟨gs, j, none⟩ = some (.string tx))
              (first | exact ⟨(HC6.out _ B1).1, (HC6.out _ B1).2.1⟩ | exact ⟨(HC6.out _ D1).1, (HC6.out _ D1).2.1⟩ | exact ⟨(keep_far _ _ (by exact hgg) 3).trans (HC6.out _ B1).1, World.cell?_setCell_same _ _ _ (HC6.out _ B1).2.1⟩)
              (first | (go_at_call 84; refine (HCL.out _).mono ?_; rintro e w1 ⟨rfl, b1⟩; (have B1 := D1.trans (b1.mono D1.size)); (obtain ⟨m0, m1, m2⟩ := HC6.out _ B1)))
            obtain ⟨n1, n2, n3⟩ := HN.out w1 B1
            have HN1 : Hid _ := n1
            have HN2 : Hid _ := n2
            have HN3 : Hid _ := n3
            clear HN HCL HC6 b1 m0 m1 m2 k0 k1 k2 n1 n2 n3
            go_wp2
            go_roundw
            case rel => exact ⟨j + 1, by go_num, by omega, HN1, HN2, HN3⟩
            case measure => simp [intOf]; omega
          · have XF := HX.out
            have RF2 : Four wr (w.heap.size + 1) (.slice none 0 0) (.slice none 0 0) (.slice none 0 0) (.slice none 0 0) := (HB1.out.block (w.heap.size + 1) (by omega)).trans HFR.out
            have q0 := XF.cell 0
            have q1 := XF.cell 1
            have q2 := XF.cell 2
            have q3 := XF.cell 3
            have r0 := RF2.cell 0
            have r1 := RF2.cell 1
            have r2 := RF2.cell 2
            have r3 := RF2.cell 3
            have z0 := RF2.frozen 0
            have z1 := RF2.frozen 1
            have z2 := RF2.frozen 2
            have z3 := RF2.frozen 3
            simp only [List.getElem?_toArray, List.getElem?_cons_zero, List.getElem?_cons_succ] at q0 q1 q2 q3 r0 r1 r2 r3
            have HBl : Hid (Below w.heap.size w wr) := HBW.out.trans (HB1.out.mono HBW.out.size)
            have HLO : Hid (fs.length = H.objs.length) := HE.out.lo
            clear XF RF2 HX HB1
            go_wp2
            refine bodyPost_ret (v := .agg #[.slice x0 H.objs.length c0, .slice x1 H.weaks.length c1, .slice x2 H.buffer.length c2, .slice x3 H.sites.length c3]) (by simp [results, Try.results33, go_sem, *]) rfl ⟨⟨x0, c0, fs, x1, H.weaks.length, c1, x2, H.buffer.length, c2, x3, H.sites.length, c3⟩, ?_, ?_, ?_⟩
            · rw [HSh.v, HLO.out]
            · refine hm_mono (hm_keepB HE.out ?_) (by omega)
              refine (((keepB_set _ _ ⟨w.heap.size + 1, 0, none⟩ _ (by simp only; omega)).trans (keepB_set _ _ ⟨w.heap.size + 1, 1, none⟩ _ (by simp only; omega))).trans (keepB_set _ _ ⟨w.heap.size + 1, 2, none⟩ _ (by simp only; omega))).trans (keepB_set _ _ ⟨w.heap.size + 1, 3, none⟩ _ (by simp only; omega))
            · iterate 4 refine Below.setCell ?_ (by simp only; omega) _
              exact HBl.out
end Go.Proofs.Ytnjplfofcjonhaa

namespace Go.Proofs.Ytnjplfofcjonhaa
open Go.RowKit
set_option linter.unusedVariables false
set_option maxRecDepth 100000
def setO (H : HeapD) (k : Nat) (o : ObjD) : HeapD := { H with objs := H.objs.set k o }
def ownQ (w : World) (B : Nat) (v : Value) (zs : List Int) : Prop := (v = .slice none 0 0 ∧ zs = []) ∨ ∃ g off cap cur, v = .slice (some ⟨g, off, none⟩) zs.length cap ∧ B ≤ g ∧ w.heap[g]? = some (.cells cur 3 (0, 0)) ∧ zs.length ≤ cap ∧ cap ≤ maxLen ∧ off + cap ≤ cur.size ∧ ∀ j (h : j < zs.length), cur[off + j]? = some (intV zs[j])
theorem cell_cur {w : World} {g : Nat} {cur : Array Value} {e : TypeId} (h : w.heap[g]? = some (.cells cur e (0, 0))) (k : Nat) : w.cell? ⟨g, k, none⟩ = cur[k]? := by simp [World.cell?, h]
theorem ownQ_own {w : World} {B : Nat} {v : Value} {zs : List Int} (h : ownI w B v zs) : ownQ w B v zs := by
  rcases h with ⟨h1, ⟨h2, h3⟩ | ⟨g, cap, cur, h2, h3, h4, h5, h6, h7, h8⟩⟩
  · exact .inl ⟨h2, List.eq_nil_of_length_eq_zero h3⟩
  · refine .inr ⟨g, 0, cap, cur, h2, h3, h4, h5, h6, by omega, fun j hj => ?_⟩
    have : (cur.toList.take (zs.length * 1))[j]? = some (intV zs[j]) := by rw [h8, List.getElem?_map, List.getElem?_eq_getElem hj]; rfl
    rw [List.getElem?_take, if_pos (by omega)] at this
    rw [Nat.zero_add]
    simpa using this
theorem ownQ_same {w w' : World} {B : Nat} {v : Value} {zs : List Int} (h : ownQ w B v zs) (hs : ∀ g, v.ownBlock = some g → w'.heap[g]? = w.heap[g]?) : ownQ w' B v zs := by
  rcases h with h | ⟨g, off, cap, cur, h1, h2, h3, h4⟩
  · exact .inl h
  · exact .inr ⟨g, off, cap, cur, h1, h2, by rw [hs g (by rw [h1]; rfl)]; exact h3, h4⟩
theorem ownQ_lt {w : World} {B : Nat} {v : Value} {zs : List Int} (h : ownQ w B v zs) (g : Nat) (hg : v.ownBlock = some g) : B ≤ g ∧ g < w.heap.size := by
  rcases h with ⟨rfl, _⟩ | ⟨g2, off, cap, cur, rfl, h2, h3, _⟩
  · cases hg
  · injection hg with hg
    subst hg
    exact ⟨h2, (Array.getElem?_eq_some_iff.1 h3).1⟩
theorem ownQ_kind {w : World} {B : Nat} {v : Value} {zs : List Int} (h : ownQ w B v zs) (g : Nat) (hg : v.ownBlock = some g) : ∃ cur, w.heap[g]? = some (.cells cur 3 (0, 0)) := by
  rcases h with ⟨rfl, _⟩ | ⟨g2, off, cap, cur, rfl, h2, h3, _⟩
  · cases hg
  · injection hg with hg
    subst hg
    exact ⟨cur, h3⟩
theorem ownQ_form {w : World} {B : Nat} {v : Value} {zs : List Int} (h : ownQ w B v zs) : ∃ a c, v = .slice a zs.length c ∧ RdI w a zs := by
  rcases h with ⟨rfl, rfl⟩ | ⟨g, off, cap, cur, rfl, h2, h3, _, _, _, h7⟩
  · exact ⟨none, 0, rfl, fun j hj => by simp at hj⟩
  · exact ⟨_, cap, rfl, fun j hj => ⟨g, off, rfl, (Array.getElem?_eq_some_iff.1 h3).1, by rw [cell_cur h3]; exact h7 j hj⟩⟩
end Go.Proofs.Ytnjplfofcjonhaa

namespace Go.Proofs.Ytnjplfofcjonhaa
open Go.RowKit
set_option linter.unusedVariables false
set_option maxRecDepth 100000
structure LS (W wr : World) (B gx : Nat) (s : HSh) (H : HeapD) (vq vf : Value) (todo fr : List Int) : Prop where
  bel : Below B W wr
  hB : B ≤ W.heap.size
  m : HM wr B s H
  x : Four wr gx (.slice s.oa s.os.length s.oc) (.slice s.wa s.wn s.wc) (.slice s.ba s.bn s.bc) (.slice s.sa s.sn s.sc)
  gB : B ≤ gx
  sx : ¬ HasB s gx
  q : ownQ wr B vq todo
  f : ownI wr B vf fr
  sq : ∀ g, vq.ownBlock = some g → ¬ HasB s g
  sf : ∀ g, vf.ownBlock = some g → ¬ HasB s g
  qf : ∀ g, vq.ownBlock = some g → vf.ownBlock ≠ some g
theorem LS.le {W wr : World} {B gx : Nat} {s : HSh} {H : HeapD} {vq vf : Value} {todo fr : List Int} (h : LS W wr B gx s H vq vf todo fr) : B ≤ wr.heap.size := Nat.le_trans h.hB h.bel.size
theorem LS.qx {W wr : World} {B gx : Nat} {s : HSh} {H : HeapD} {vq vf : Value} {todo fr : List Int} (h : LS W wr B gx s H vq vf todo fr) (g : Nat) (hg : vq.ownBlock = some g) : g ≠ gx := by
  obtain ⟨cur, hc⟩ := ownQ_kind h.q g hg
  exact kind_ne hc h.x (by decide)
theorem LS.fx {W wr : World} {B gx : Nat} {s : HSh} {H : HeapD} {vq vf : Value} {todo fr : List Int} (h : LS W wr B gx s H vq vf todo fr) (g : Nat) (hg : vf.ownBlock = some g) : g ≠ gx := by
  obtain ⟨cur, hc⟩ := row_kind h.f g hg
  exact kind_ne hc h.x (by decide)
theorem ls_later {W wr w' : World} {B gx : Nat} {s : HSh} {H : HeapD} {vq vf : Value} {todo fr : List Int} (h : LS W wr B gx s H vq vf todo fr) (hb : Below wr.heap.size wr w') : LS W w' B gx s H vq vf todo fr :=
  ⟨h.bel.trans (hb.mono h.le), h.hB, hm_later h.m hb, h.x.later hb, h.gB, h.sx, ownQ_same h.q (fun g hg => hb.block g (ownQ_lt h.q g hg).2), ownI_later h.f hb, h.sq, h.sf, h.qf⟩
theorem ls_obj {W wr : World} {B gx : Nat} {s : HSh} {H H' : HeapD} {vq vf : Value} {todo fr : List Int} (h : LS W wr B gx s H vq vf todo fr) (go i : Nat) (u : Value) (hgo : s.oa = some ⟨go, 0, none⟩) (hm : HM (wr.setCell ⟨go, i, none⟩ u) B s H') : LS W (wr.setCell ⟨go, i, none⟩ u) B gx s H' vq vf todo fr := by
  have hh : HasB s go := .inl ⟨_, hgo, rfl⟩
  have oth : ∀ g, g ≠ go → (wr.setCell ⟨go, i, none⟩ u).heap[g]? = wr.heap[g]? := fun g hg => heap_setCell_other _ _ _ _ (by exact hg)
  exact ⟨h.bel.setCell (hm_bl h.m hh).1 _, h.hB, hm, h.x.same (oth gx (fun e => h.sx (by rw [e]; exact hh))), h.gB, h.sx, ownQ_same h.q (fun g hg => oth g (fun e => h.sq g hg (by rw [e]; exact hh))), ownI_same h.f (fun g hg => oth g (fun e => h.sf g hg (by rw [e]; exact hh))), h.sq, h.sf, h.qf⟩
theorem ls_fr {W wr w' : World} {B gx : Nat} {s : HSh} {H : HeapD} {vq vf : Value} {todo fr : List Int} (h : LS W wr B gx s H vq vf todo fr) (hb : Below B W w') (hsz : wr.heap.size ≤ w'.heap.size) (oth : ∀ i, i < wr.heap.size → vf.ownBlock ≠ some i → w'.heap[i]? = wr.heap[i]?) (v' : Value) (fr' : List Int) (hf : ownI w' B v' fr') (hl : v'.ownBlock = vf.ownBlock ∨ ∃ g, v'.ownBlock = some g ∧ wr.heap.size ≤ g) : LS W w' B gx s H vq v' todo fr' := by
  have new : ∀ g, v'.ownBlock = some g → vf.ownBlock = some g ∨ wr.heap.size ≤ g := fun g hg => by
    rcases hl with e | ⟨g2, e, h2⟩
    · exact .inl (by rw [← e]; exact hg)
    · rw [e] at hg; injection hg with hg; subst hg; exact .inr h2
  exact ⟨hb, h.hB, hm_same h.m hsz (fun g hg => oth g (hm_bl h.m hg).2 (fun e => h.sf g e hg)), h.x.same (oth gx h.x.lt (fun e => h.fx gx e rfl)), h.gB, h.sx, ownQ_same h.q (fun g hg => oth g (ownQ_lt h.q g hg).2 (fun e => h.qf g hg e)), hf, h.sq, fun g hg hh => (by
    rcases new g hg with e | e
    · exact h.sf g e hh
    · have := (hm_bl h.m hh).2; omega), fun g hg hg2 => (by
    rcases new g hg2 with e | e
    · exact h.qf g hg e
    · have := (ownQ_lt h.q g hg).2; omega)⟩
theorem hasB_buf {s : HSh} {ba : Option Addr} {bn bc g : Nat} (h : HasB { s with ba := ba, bn := bn, bc := bc } g) : HasB' s g ∨ ∃ x, ba = some x ∧ x.block = g := by
  rcases h with h | h | h | h | h
  · exact .inl (.inl h)
  · exact .inl (.inr (.inl h))
  · exact .inr h
  · exact .inl (.inr (.inr (.inl h)))
  · exact .inl (.inr (.inr (.inr h)))
theorem ls_buf {W wr w1 : World} {B gx : Nat} {s : HSh} {H : HeapD} {vq vf : Value} {todo fr : List Int} (h : LS W wr B gx s H vq vf todo fr) (hb : Below B W w1) (hsz : wr.heap.size ≤ w1.heap.size) (oth : ∀ i, i < wr.heap.size → (Value.slice s.ba s.bn s.bc).ownBlock ≠ some i → w1.heap[i]? = wr.heap[i]?) (ba : Option Addr) (bn bc : Nat) (Z : List Int) (hn : bn = Z.length) (hz : ownI w1 B (.slice ba bn bc) Z)
    (hl : ∀ g, (Value.slice ba bn bc).ownBlock = some g → (Value.slice s.ba s.bn s.bc).ownBlock = some g ∨ wr.heap.size ≤ g) : LS W (w1.setCell ⟨gx, 2, none⟩ (.slice ba bn bc)) B gx { s with ba := ba, bn := bn, bc := bc } { H with buffer := Z } vq vf todo fr := by
  have old : ∀ g, HasB' s g → (Value.slice s.ba s.bn s.bc).ownBlock ≠ some g := fun g hg e => by
    obtain ⟨x, hx, e2⟩ := own_some e
    exact hm_bdif h.m hg x hx e2
  have new : ∀ x, ba = some x → (∃ y, s.ba = some y ∧ y.block = x.block) ∨ wr.heap.size ≤ x.block := fun x hx => by
    rcases hl _ (own_block hx) with e | e
    · obtain ⟨y, hy, e2⟩ := own_some e
      exact .inl ⟨y, hy, e2⟩
    · exact .inr e
  have bk : ∀ x, s.ba = some x → HasB s x.block := fun x hx => .inr (.inr (.inl ⟨x, hx, rfl⟩))
  have hx1 : w1.heap[gx]? = wr.heap[gx]? := oth gx h.x.lt (fun e => by obtain ⟨x, hx, e2⟩ := own_some e; exact h.sx (by rw [← e2]; exact bk x hx))
  have x1 := h.x.same hx1
  have oth2 : ∀ i, i ≠ gx → (w1.setCell ⟨gx, 2, none⟩ (.slice ba bn bc)).heap[i]? = w1.heap[i]? := fun i hi => heap_setCell_other _ _ _ _ (by exact hi)
  have m1 : HM w1 B { s with ba := ba, bn := bn, bc := bc } { H with buffer := Z } := hm_buf h.m hsz (fun g hg => oth g (hm_bl h.m hg.has).2 (old g hg)) ba bn bc Z hn hz (fun x hx hh => by
    rcases new x hx with ⟨y, hy, e⟩ | e
    · exact hm_bdif h.m hh y hy e
    · have := (hm_bl h.m hh.has).2; omega)
  have sx' : ¬ HasB { s with ba := ba, bn := bn, bc := bc } gx := fun hh => by
    rcases hasB_buf hh with h1 | ⟨x, hx, e⟩
    · exact h.sx h1.has
    · rcases new x hx with ⟨y, hy, e2⟩ | e2
      · exact h.sx (by rw [← e, ← e2]; exact bk y hy)
      · have := h.x.lt; omega
  have apart : ∀ {g : Nat}, g < wr.heap.size → ¬ HasB s g → ¬ HasB { s with ba := ba, bn := bn, bc := bc } g := fun hg hn hh => by
    rcases hasB_buf hh with h1 | ⟨x, hx, e⟩
    · exact hn h1.has
    · rcases new x hx with ⟨y, hy, e2⟩ | e2
      · exact hn (by rw [← e, ← e2]; exact bk y hy)
      · omega
  have nb : ∀ g, ¬ HasB s g → (Value.slice s.ba s.bn s.bc).ownBlock ≠ some g := fun g hn e => by obtain ⟨x, hx, e2⟩ := own_some e; exact hn (by rw [← e2]; exact bk x hx)
  refine ⟨hb.setCell h.gB _, h.hB, ?_, x1.set2 _, h.gB, sx', ?_, ?_, fun g hg => apart (ownQ_lt h.q g hg).2 (h.sq g hg), fun g hg => apart (ownI_lt h.f g hg).2 (h.sf g hg), h.qf⟩
  · exact hm_same m1 (by simp [World.setCell]) (fun g hg => oth2 g (fun e => sx' (by rw [← e]; exact hg)))
  · exact ownQ_same h.q (fun g hg => (oth2 g (h.qx g hg)).trans (oth g (ownQ_lt h.q g hg).2 (nb g (h.sq g hg))))
  · exact ownI_same h.f (fun g hg => (oth2 g (h.fx g hg)).trans (oth g (ownI_lt h.f g hg).2 (nb g (h.sf g hg))))
theorem hasB_set {s : HSh} {k : Nat} {t : OSh} {g : Nat} (h : HasB { s with os := s.os.set k t } g) : HasB s g ∨ ∃ x, t.f = some x ∧ x.block = g := by
  rcases h with h | h | h | h | ⟨u, hu, x, hx, e⟩
  · exact .inl (.inl h)
  · exact .inl (.inr (.inl h))
  · exact .inl (.inr (.inr (.inl h)))
  · exact .inl (.inr (.inr (.inr (.inl h))))
  · rcases List.mem_or_eq_of_mem_set hu with hu | rfl
    · exact .inl (.inr (.inr (.inr (.inr ⟨u, hu, x, hx, e⟩))))
    · exact .inr ⟨x, hx, e⟩
theorem setObj_own' {w : World} {B g p : Nat} {o : ObjD} {u v : Value} {zs : List Int} (h : ownI w B v zs) (hg : ∀ i, v.ownBlock = some i → i ≠ g) : ownI (setObj w g p o u) B v zs :=
  ownI_same h (fun i hi => by
    unfold setObj
    iterate 8 rw [heap_setCell_other _ _ _ _ (by exact hg i hi)])
theorem ls_put {W wr w1 : World} {B gx : Nat} {s : HSh} {H : HeapD} {vq vf : Value} {todo fr : List Int} (h : LS W wr B gx s H vq vf todo fr) (b1 : Below wr.heap.size wr w1) (k : Nat) (hk : k < H.objs.length) (go : Nat) (hgo : s.oa = some ⟨go, 0, none⟩) (o : ObjD) (f : Option Addr) (c : Nat) (hf : ownI w1 wr.heap.size (.slice f o.field.length c) o.field) :
    LS W (setObj w1 go (k * 8) o (.slice f o.field.length c)) B gx { s with os := s.os.set k ⟨f, o.field.length, c⟩ } (setO H k o) vq vf todo fr := by
  have h1 := ls_later h b1
  have hs1 := b1.size
  have hh : HasB s go := .inl ⟨_, hgo, rfl⟩
  have oth : ∀ g, g ≠ go → (setObj w1 go (k * 8) o (.slice f o.field.length c)).heap[g]? = w1.heap[g]? := fun g hg => by
    unfold setObj
    iterate 8 rw [heap_setCell_other _ _ _ _ (by exact hg)]
  have hgl := (hm_bl h.m hh).2
  have fnew : ∀ y, f = some y → wr.heap.size ≤ y.block := fun y hy => (ownI_lt hf _ (own_block hy)).1
  have dn : ∀ {g : Nat}, HasB s g → ∀ x y : Addr, x.block = g → f = some y → x.block ≠ y.block := fun hg x y hx hy e => by
    have := (hm_bl h.m hg).2
    have := fnew y hy
    omega
  obtain ⟨hk2, ho1, _⟩ := hm_obj h1.m k hk go hgo
  have m' : HM (setObj w1 go (k * 8) o (.slice f o.field.length c)) B { s with os := s.os.set k ⟨f, o.field.length, c⟩ } (setO H k o) :=
    hm_setO h1.m k hk go hgo o ⟨f, o.field.length, c⟩ (by rw [setObj_size]; exact Nat.le_refl _) (fun i hi _ => oth i hi) (setObj_at w1 go _ o _ (fun q hq => objAt_some ho1 q hq)) (fun q hq => setObj_other _ _ _ _ _ _ hq) (fun q => setObj_frozen _ _ _ _ _ _) rfl
      (setObj_own' (ownI_mono hf h.le) (fun g hg e => by obtain ⟨y, hy, e2⟩ := own_some hg; have := fnew y hy; omega))
      (fun x y hx hy => dn (.inl ⟨x, hx, rfl⟩) x y rfl hy) (fun x y hx hy => dn (.inr (.inl ⟨x, hx, rfl⟩)) x y rfl hy) (fun x y hx hy => dn (.inr (.inr (.inl ⟨x, hx, rfl⟩))) x y rfl hy) (fun x y hx hy => dn (.inr (.inr (.inr (.inl ⟨x, hx, rfl⟩)))) x y rfl hy)
      (fun j hj _ x y hx hy => dn (.inr (.inr (.inr (.inr ⟨_, List.getElem_mem hj, x, hx, rfl⟩)))) x y rfl hy)
  have apart : ∀ {g : Nat}, g < wr.heap.size → ¬ HasB s g → ¬ HasB { s with os := s.os.set k ⟨f, o.field.length, c⟩ } g := fun hg hn h2 => by
    rcases hasB_set h2 with h3 | ⟨x, hx, e⟩
    · exact hn h3
    · have := fnew x hx; omega
  refine ⟨setObj_below _ _ _ _ h1.bel (hm_bl h.m hh).1, h.hB, m', ?_, h.gB, apart h.x.lt h.sx, ownQ_same h1.q (fun g hg => oth g (fun e => h.sq g hg (by rw [e]; exact hh))), ownI_same h1.f (fun g hg => oth g (fun e => h.sf g hg (by rw [e]; exact hh))), fun g hg => apart (ownQ_lt h.q g hg).2 (h.sq g hg), fun g hg => apart (ownI_lt h.f g hg).2 (h.sf g hg), h.qf⟩
  have x1 := h1.x.same (oth gx (fun e => h.sx (by rw [e]; exact hh)))
  rw [show ({ s with os := s.os.set k ⟨f, o.field.length, c⟩ } : HSh).os.length = s.os.length from by simp]
  exact x1
end Go.Proofs.Ytnjplfofcjonhaa

namespace Go.Proofs.Ytnjplfofcjonhaa
open Go.RowKit
set_option linter.unusedVariables false
set_option maxRecDepth 100000
theorem cells_idxs (g off n : Nat) : ∃ x, cellsV g off n = .agg x ∧ ∀ s : Nat, s < 8 → ∀ X : World, (Instr.index 96 (.agg x) (.int .i64 (s : Int))).run Try.prog X = .ok (.pointer (cellA g off n s)) X :=
  ⟨_, rfl, fun s hs X => by obtain ⟨x, hx, h⟩ := cells_idx g off n s hs; unfold cellsV at hx; injection hx with hx; subst hx; exact h X⟩
end Go.Proofs.Ytnjplfofcjonhaa

namespace Go.Proofs.Ytnjplfofcjonhaa
open Go.RowKit
set_option linter.unusedVariables false
set_option maxRecDepth 100000
def setl (K : HeapD) (i : Nat) (o : ObjD) : ObjD := if o.live = true then { o with purple := false, count := madeZ K (i : Int) o } else { o with purple := false }
def settleH (K : HeapD) : HeapD := { K with objs := K.objs.mapIdx (setl K), buffer := [] }
def setlAt (K : HeapD) (j : Nat) : HeapD := { K with objs := upTo (setl K) j K.objs, buffer := [] }
theorem setl_alike (K : HeapD) (i : Nat) (o : ObjD) : Alike3 (setl K i o) o := by
  unfold setl
  split <;> exact ⟨rfl, rfl, rfl⟩
theorem setlAt_len (K : HeapD) (j : Nat) : (setlAt K j).objs.length = K.objs.length := upTo_length _ _ _
theorem setlAt_get (K : HeapD) (j i : Nat) (h : i < K.objs.length) : (setlAt K j).objs[i]'(by rw [setlAt_len]; exact h) = if i < j then setl K i K.objs[i] else K.objs[i] := upTo_get _ _ _ _ h
theorem setlAt_alike (K : HeapD) (j i : Nat) (h1 : i < (setlAt K j).objs.length) (h2 : i < K.objs.length) : Alike3 (setlAt K j).objs[i] K.objs[i] := by
  rw [setlAt_get K j i h2]
  split
  · exact setl_alike K i _
  · exact ⟨rfl, rfl, rfl⟩
theorem setO_alike {A : HeapD} {B : HeapD} (hl : A.objs.length = B.objs.length) (h : ∀ i (h1 : i < A.objs.length) (h2 : i < B.objs.length), Alike3 A.objs[i] B.objs[i]) (k : Nat) (o : ObjD) (hk : k < B.objs.length) (ho : Alike3 o B.objs[k]) :
    ∀ i (h1 : i < ({ A with objs := A.objs.set k o } : HeapD).objs.length) (h2 : i < B.objs.length), Alike3 ({ A with objs := A.objs.set k o } : HeapD).objs[i] B.objs[i] := by
  intro i h1 h2
  simp only [List.getElem_set]
  by_cases e : k = i
  · subst e; rw [if_pos rfl]; exact ho
  · rw [if_neg e]; exact h i (by simpa using h1) h2
theorem small_alike {A B : HeapD} (hs : SmallH B) (hl : A.objs.length = B.objs.length) (h : ∀ i (h1 : i < A.objs.length) (h2 : i < B.objs.length), Alike3 A.objs[i] B.objs[i]) (hw : A.weaks = B.weaks) (hb : A.buffer.length ≤ 1048576) (hst : A.sites = B.sites) : SmallH A := by
  refine ⟨by rw [hl]; exact hs.objs, fun z hz => ?_, by rw [hw]; exact hs.weaks, hb, by rw [hst]; exact hs.sites, by rw [hst]; exact hs.names⟩
  obtain ⟨i, hi, rfl⟩ := List.getElem_of_mem hz
  rw [(h i hi (by omega)).2.2]
  exact hs.fields _ (List.getElem_mem _)
set_option maxHeartbeats 8000000 in
theorem settle_calls (W w : World) (B gx : Nat) (s : HSh) (K : HeapD) (vq vf : Value) (todo fr : List Int) (h : LS W w B gx s K vq vf todo fr) (hs : SmallH K) (h8 : K.objs.length = 8) :
    Calls Try.prog 70 #[.pointer (some ⟨gx, 0, none⟩)] w fun e w' => e = .returned (.tuple #[]) ∧ ∃ s', LS W w' B gx s' (settleH K) vq vf todo fr := by
  obtain ⟨go, hgo, -, -⟩ := hm_own h.m 0 (by omega)
  have L0 : LS W (w.setCell ⟨gx, 2, none⟩ (.slice none 0 0)) B gx { s with ba := none, bn := 0, bc := 0 } { K with buffer := [] } vq vf todo fr :=
    ls_buf h h.bel (Nat.le_refl _) (fun _ _ _ => rfl) none 0 0 [] rfl (ownI_nil _ _) (fun g hg => by simp [Value.ownBlock] at hg)
  have E0 : ({ K with buffer := [] } : HeapD) = setlAt K 0 := by unfold setlAt; rw [upTo_zero]
  rw [E0] at L0
  have HEND : Hid (setlAt K 8 = settleH K) := by show _ = _; unfold setlAt settleH; rw [upTo_all _ _ _ (by omega)]
  have HSM : Hid (SmallH K) := hs
  have HL8 : Hid (K.objs.length = 8) := h8
  have y2 : w.cell? ⟨gx, 2, none⟩ = some (.slice s.ba s.bn s.bc) := h.x.cell 2
  have f2 := h.x.frozen 2
  obtain ⟨V, hV⟩ : ∃ V, V = w.setCell ⟨gx, 2, none⟩ (.slice none 0 0) := ⟨_, rfl⟩
  rw [← hV] at L0
  have HSL : Hid (s.os.length = 8) := by show _ = _; have := L0.m.lo; rw [setlAt_len, h8] at this; exact this
  obtain ⟨s1, hs1⟩ : ∃ s1 : HSh, { s with ba := none, bn := 0, bc := 0 } = s1 := ⟨_, rfl⟩
  have hgo1 : s1.oa = some ⟨go, 0, none⟩ := by rw [← hs1]; exact hgo
  have x0 : V.cell? ⟨gx, 0, none⟩ = some (.slice s.oa s.os.length s.oc) := by have := L0.x.cell 0; exact this
  have x1 : V.cell? ⟨gx, 1, none⟩ = some (.slice s.wa s.wn s.wc) := by have := L0.x.cell 1; exact this
  have x2 : V.cell? ⟨gx, 2, none⟩ = some (.slice none 0 0) := by have := L0.x.cell 2; exact this
  have x3 : V.cell? ⟨gx, 3, none⟩ = some (.slice s.sa s.sn s.sc) := by have := L0.x.cell 3; exact this
  rw [hs1] at L0
  have HL0 : Hid (LS W V B gx s1 (setlAt K 0) vq vf todo fr) := L0
  have hln : s.os.length ≤ 1048576 := by have := HSL.out; omega
  have CC : Hid (∀ X : World, _) := fun X => cellsOf_calls X s.oa s.os.length s.oc (.slice s.wa s.wn s.wc) (.slice none 0 0) (.slice s.sa s.sn s.sc) hln go 0 (fun _ => hgo) ⟨_, _, _, _, _, _, _, _, _, rfl, rfl, rfl⟩
  obtain ⟨x, hx, hxs⟩ := cells_idxs go 0 s.os.length
  have HX : Hid (∀ i : Nat, i < 8 → ∀ X : World, (Instr.index 96 (.agg x) (.int .i64 (i : Int))).run Try.prog X = .ok (.pointer (some ⟨go, i * 8, none⟩)) X) := fun i hi X => by
    have e := hxs i hi X
    unfold cellA at e
    rw [if_pos (by have := HSL.out; omega), Nat.zero_add] at e
    exact e
  rw [hx] at CC
  rw [hV] at x0 x1 x2 x3
  have HGO1 : Hid (s1.oa = some ⟨go, 0, none⟩) := hgo1
  have HS1 : Hid (s1.v = .agg #[.slice s.oa s.os.length s.oc, .slice s.wa s.wn s.wc, .slice none 0 0, .slice s.sa s.sn s.sc]) := by show _ = _; rw [← hs1]; rfl
  have HS4 : Hid (∀ X, Four X gx (.slice s1.oa s1.os.length s1.oc) (.slice s1.wa s1.wn s1.wc) (.slice s1.ba s1.bn s1.bc) (.slice s1.sa s1.sn s1.sc) → Four X gx (.slice s.oa s.os.length s.oc) (.slice s.wa s.wn s.wc) (.slice none 0 0) (.slice s.sa s.sn s.sc)) := fun X hX => by rw [← hs1] at hX; exact hX
  clear hx hxs L0 h hs h8 E0 hs1 hln hgo hgo1
  go_enter Try.func70, Try.ntmps70
  go_wp2_with fail
  rw [← hV]
  clear hV x0 x1 x2 x3 y2 f2
  refine (CC.out _).mono ?_
  rintro e w1 ⟨rfl, b1⟩
  have HL1 : Hid (LS W w1 B gx s1 (setlAt K 0) vq vf todo fr) := ls_later HL0.out b1
  clear b1 CC HL0
  go_wp2
  go_loopw [11] (fun i wr => ∃ j : Nat, i = .int .i64 (j : Int) ∧ j ≤ 8 ∧ Hid (LS W wr B gx s1 (setlAt K j) vq vf todo fr)) (fun i _ => 8 - (intOf i).toNat)
  case atStart => exact ⟨0, rfl, by omega, HL1⟩
  case round =>
    obtain ⟨j, rfl, hj8, HI⟩ := hrel
    by_cases hlt : j < 8
    · have hix := HX.out j hlt
      have hjK : j < K.objs.length := by have := HL8.out; omega
      have hjS : j < (setlAt K j).objs.length := by rw [setlAt_len]; exact hjK
      obtain ⟨hj2, ho, hfz⟩ := hm_obj HI.out.m j hjS go HGO1.out
      have HG : Hid ((setlAt K j).objs[j] = K.objs[j]) := by show _ = _; rw [setlAt_get K j j hjK, if_neg (Nat.lt_irrefl _)]
      have HL2 : Hid (LS W (wr.setCell ⟨go, j * 8 + 7, none⟩ (.bool false)) B gx s1 { setlAt K j with objs := (setlAt K j).objs.set j { (setlAt K j).objs[j] with purple := false } } vq vf todo fr) := ls_obj HI.out go _ _ HGO1.out (hm_purple HI.out.m j hjS go HGO1.out false)
      have HST : Hid (setlAt K (j + 1) = { setlAt K j with objs := (setlAt K j).objs.set j (setl K j K.objs[j]) }) := by show _ = _; unfold setlAt; rw [upTo_step _ _ _ hjK]
      rw [HG.out] at HL2 ho
      have c7 := ho.c7
      have z7 := hfz 7 (by omega)
      have z5 := hfz 5 (by omega)
      obtain ⟨V2, hV2⟩ : ∃ V2, V2 = wr.setCell ⟨go, j * 8 + 7, none⟩ (.bool false) := ⟨_, rfl⟩
      have c0 : V2.cell? ⟨go, j * 8 + 0, none⟩ = some (.bool K.objs[j].live) := by rw [hV2, cell_far _ _ _ _ _ (by omega)]; exact ho.c0
      rw [Nat.add_zero] at c0
      rw [← hV2] at HL2
      cases hlv : K.objs[j].live with
      | false =>
        have HN : Hid (LS W V2 B gx s1 (setlAt K (j + 1)) vq vf todo fr) := by
          have e : setl K j K.objs[j] = { K.objs[j] with purple := false } := by unfold setl; rw [if_neg (by simp [hlv])]
          rw [HST.out, e]; exact HL2.out
        rw [hlv] at c0
        rw [hV2] at c0 HN
        clear HL2 HI HST HG ho hfz hV2 z5
        go_wp2
        go_roundw
        case rel => exact ⟨j + 1, by go_num, by omega, HN⟩
        case measure => simp [intOf]; omega
      | true =>
        obtain ⟨Hc, hHc⟩ : ∃ Hc : HeapD, Hc = { setlAt K j with objs := (setlAt K j).objs.set j { K.objs[j] with purple := false } } := ⟨_, rfl⟩
        rw [← hHc] at HL2
        have hal : ∀ i (h1 : i < Hc.objs.length) (h2 : i < K.objs.length), Alike3 Hc.objs[i] K.objs[i] := by
          subst hHc
          exact setO_alike (setlAt_len K j) (fun i h1 h2 => setlAt_alike K j i h1 h2) j _ hjK ⟨rfl, rfl, rfl⟩
        have hcl : Hc.objs.length = K.objs.length := by rw [hHc]; simp [setlAt_len]
        have hsc : SmallH Hc := small_alike HSM.out hcl hal (by rw [hHc]; rfl) (by rw [hHc]; show ([] : List Int).length ≤ _; simp) (by rw [hHc]; rfl)
        have hjc : j < Hc.objs.length := by omega
        have hoc : Hc.objs[j] = { K.objs[j] with purple := false } := by simp only [hHc, List.getElem_set_self]
        obtain ⟨hj3, ho3, hfz3⟩ := hm_obj HL2.out.m j hjc go HGO1.out
        have hfn : s1.os[j].n = Hc.objs[j].field.length := (HL2.out.m.f j hjc hj3).1
        rw [hfn, hoc] at ho3
        have hgl : go < V2.heap.size := (hm_bl HL2.out.m (.inl ⟨_, HGO1.out, rfl⟩)).2
        have CM : Hid (∀ _ : Unit, _) := fun (_ : Unit) => countMade_calls s1.v Hc j { K.objs[j] with purple := false } V2 (hm_rd HL2.out.m) hsc hlt go (j * 8) _ _ hgl ho3
        have HMZ : Hid (madeZ Hc (j : Int) { K.objs[j] with purple := false } = madeZ K (j : Int) K.objs[j]) := madeZ_alike hcl hal _ _ _ rfl rfl
        rw [HMZ.out, HS1.out] at CM
        have X2 := HS4.out _ HL2.out.x
        have u0 : V2.cell? ⟨gx, 0, none⟩ = some (.slice s.oa s.os.length s.oc) := X2.cell 0
        have u1 : V2.cell? ⟨gx, 1, none⟩ = some (.slice s.wa s.wn s.wc) := X2.cell 1
        have u2 : V2.cell? ⟨gx, 2, none⟩ = some (.slice none 0 0) := X2.cell 2
        have u3 : V2.cell? ⟨gx, 3, none⟩ = some (.slice s.sa s.sn s.sc) := X2.cell 3
        have HSE : Hid (setl K j K.objs[j] = { K.objs[j] with purple := false, count := madeZ K (j : Int) K.objs[j] }) := by show _ = _; unfold setl; rw [if_pos hlv]
        have HHc : Hid (Hc = { setlAt K j with objs := (setlAt K j).objs.set j { K.objs[j] with purple := false } }) := hHc
        have HOC : Hid (Hc.objs[j] = { K.objs[j] with purple := false }) := hoc
        obtain ⟨M, hM⟩ : ∃ M, madeZ K (j : Int) K.objs[j] = M := ⟨_, rfl⟩
        rw [hM] at CM HSE
        rw [hlv] at c0
        rw [hV2] at c0 u0 u1 u2 u3
        clear HI HG ho hfz z5 hM hHc hal hcl hsc hoc ho3 hfn HMZ X2 hgl hj3 hfz3
        go_wp2_with fail
        rw [← hV2]
        clear hV2 c0 u0 u1 u2 u3 c7 z7
        refine (CM.out ()).mono ?_
        rintro e w3 ⟨rfl, b3⟩
        have HL3 : Hid (LS W w3 B gx s1 Hc vq vf todo fr) := ls_later HL2.out b3
        have HL4 : Hid (LS W (w3.setCell ⟨go, j * 8 + 5, none⟩ (.int .i64 M)) B gx s1 { Hc with objs := Hc.objs.set j { Hc.objs[j] with count := M } } vq vf todo fr) := ls_obj HL3.out go _ _ HGO1.out (hm_count HL3.out.m j hjc go HGO1.out M)
        obtain ⟨_, ho4, hfz4⟩ := hm_obj HL3.out.m j hjc go HGO1.out
        have c5 := ho4.c5
        have z5 := hfz4 5 (by omega)
        have HN : Hid (LS W (w3.setCell ⟨go, j * 8 + 5, none⟩ (.int .i64 M)) B gx s1 (setlAt K (j + 1)) vq vf todo fr) := by
          have e : ({ Hc with objs := Hc.objs.set j { Hc.objs[j] with count := M } } : HeapD) = setlAt K (j + 1) := by
            rw [HST.out, HSE.out, HOC.out, HHc.out]
            simp
          rw [← e]; exact HL4.out
        clear HL2 HL3 HL4 ho4 hfz4 b3 CM HST
        go_wp2
        go_roundw
        case rel => exact ⟨j + 1, by go_num, by omega, HN⟩
        case measure => simp [intOf]; omega
    · have hj : j = 8 := by omega
      have HFIN : Hid (LS W wr B gx s1 (settleH K) vq vf todo fr) := by show LS _ _ _ _ _ _ _ _ _ _; rw [← HEND.out, ← hj]; exact HI.out
      clear HI
      go_wp2
      go_end0
      exact ⟨rfl, s1, HFIN.out⟩
end Go.Proofs.Ytnjplfofcjonhaa

namespace Go.Proofs.Ytnjplfofcjonhaa
open Go.RowKit
set_option linter.unusedVariables false
set_option maxRecDepth 100000
theorem whiteL_mem (zs : List Int) : ∀ (i j : Int), j ∈ whiteL zs i ↔ ∃ k : Nat, k < zs.length ∧ j = i + (k : Int) ∧ zs.getD k 0 = 2 := by
  induction zs with
  | nil => intro i j; simp [whiteL]
  | cons z r ih =>
    intro i j
    have key : j ∈ whiteL r (i + 1) ↔ ∃ k : Nat, k + 1 < (z :: r).length ∧ j = i + ((k + 1 : Nat) : Int) ∧ (z :: r).getD (k + 1) 0 = 2 := by
      rw [ih]
      constructor
      · rintro ⟨k, h1, h2, h3⟩; exact ⟨k, by simpa using h1, by omega, by simpa using h3⟩
      · rintro ⟨k, h1, h2, h3⟩; exact ⟨k, by simpa using h1, by omega, by simpa using h3⟩
    unfold whiteL
    split
    · rename_i hz
      rw [List.mem_cons, key]
      constructor
      · rintro (rfl | ⟨k, h⟩)
        · exact ⟨0, by simp, by omega, by simpa using hz⟩
        · exact ⟨k + 1, h⟩
      · rintro ⟨k, h1, h2, h3⟩
        cases k with
        | zero => left; omega
        | succ k => right; exact ⟨k, h1, h2, h3⟩
    · rename_i hz
      rw [key]
      constructor
      · rintro ⟨k, h⟩; exact ⟨k + 1, h⟩
      · rintro ⟨k, h1, h2, h3⟩
        cases k with
        | zero => exact absurd (by simpa using h3) hz
        | succ k => exact ⟨k, h1, h2, h3⟩
theorem whites_mem (T : TrialD) (hT : Eight T) (i : Nat) (hi : i < 8) : (i : Int) ∈ whites T ↔ isW T i = true := by
  unfold whites isW
  rw [whiteL_mem, decide_eq_true_iff]
  constructor
  · rintro ⟨k, h1, h2, h3⟩
    rw [show i = k from by omega]; exact h3
  · intro h
    exact ⟨i, by have := hT.2; omega, by omega, h⟩
theorem whites_slots (T : TrialD) (hT : Eight T) : Slots (whites T) := fun z hz => by
  unfold whites at hz
  obtain ⟨k, h1, h2, -⟩ := (whiteL_mem _ _ _).1 hz
  have := hT.2
  omega
def wipeAt (H : HeapD) (ws : List Int) (j : Nat) : HeapD := { H with objs := H.objs.mapIdx (fun i o => if (i : Int) ∈ ws.take j then emptyD o.gen else o) }
theorem wipeAt_len (H : HeapD) (ws : List Int) (j : Nat) : (wipeAt H ws j).objs.length = H.objs.length := by simp [wipeAt]
theorem wipeAt_get (H : HeapD) (ws : List Int) (j i : Nat) (h : i < H.objs.length) : (wipeAt H ws j).objs[i]'(by rw [wipeAt_len]; exact h) = if (i : Int) ∈ ws.take j then emptyD H.objs[i].gen else H.objs[i] := by simp [wipeAt]
theorem wipeAt_gen (H : HeapD) (ws : List Int) (j i : Nat) (h : i < H.objs.length) : ((wipeAt H ws j).objs[i]'(by rw [wipeAt_len]; exact h)).gen = H.objs[i].gen := by
  rw [wipeAt_get H ws j i h]
  split <;> rfl
theorem wipeAt_zero (H : HeapD) (ws : List Int) : wipeAt H ws 0 = H := by
  have e : H.objs.mapIdx (fun i o => if (i : Int) ∈ ws.take 0 then emptyD o.gen else o) = H.objs := List.ext_getElem (by simp) (fun i h1 h2 => by simp)
  unfold wipeAt
  rw [e]
theorem wipeAt_step (H : HeapD) (ws : List Int) (j k : Nat) (hj : j < ws.length) (hk : k < H.objs.length) (hw : ws[j] = (k : Int)) : wipeAt H ws (j + 1) = setO (wipeAt H ws j) k (emptyD H.objs[k].gen) := by
  have e : (wipeAt H ws (j + 1)).objs = (wipeAt H ws j).objs.set k (emptyD H.objs[k].gen) := by
    refine List.ext_getElem (by simp [wipeAt]) (fun i h1 h2 => ?_)
    have hi : i < H.objs.length := by rw [wipeAt_len] at h1; exact h1
    rw [List.getElem_set, wipeAt_get H ws (j + 1) i hi, List.take_succ_eq_append_getElem hj, hw]
    by_cases e : k = i
    · subst e; simp
    · rw [if_neg e, wipeAt_get H ws j i hi]
      have : ¬ (i : Int) = (k : Int) := by omega
      simp [this]
  show wipeAt H ws (j + 1) = { wipeAt H ws j with objs := (wipeAt H ws j).objs.set k (emptyD H.objs[k].gen) }
  rw [← e]
  rfl
theorem wipe_settle (H : HeapD) (T : TrialD) (hT : Eight T) (h8 : H.objs.length = 8) (hTs : T = suspT H) : settleH (wipeAt H (whites T) (whites T).length) = collH H := by
  obtain ⟨K, hK⟩ : ∃ K, wipeAt H (whites T) (whites T).length = K := ⟨_, rfl⟩
  have hKl : K.objs.length = H.objs.length := by rw [← hK]; exact wipeAt_len _ _ _
  have hKg : ∀ i (h : i < H.objs.length), K.objs[i]'(by omega) = wipeO T i H.objs[i] := fun i h => by
    have e := wipeAt_get H (whites T) (whites T).length i h
    rw [List.take_length] at e
    subst hK
    rw [e]
    unfold wipeO
    by_cases hw : isW T i = true
    · rw [if_pos hw, if_pos ((whites_mem T hT i (by omega)).2 hw)]
    · rw [if_neg hw, if_neg (fun hm => hw ((whites_mem T hT i (by omega)).1 hm))]
  have h1l : (coll1 H).objs.length = H.objs.length := by simp [coll1]
  have h1g : ∀ i (h : i < H.objs.length), (coll1 H).objs[i]'(by omega) = collO T i H.objs[i] := fun i h => by subst hTs; simp [coll1]
  have hal : ∀ i (a : i < K.objs.length) (b : i < (coll1 H).objs.length), Alike3 K.objs[i] (coll1 H).objs[i] := fun i a b => by
    rw [hKg i (by omega), h1g i (by omega)]
    unfold wipeO collO
    split <;> exact ⟨rfl, rfl, rfl⟩
  rw [hK]
  unfold settleH collH
  have e : K.objs.mapIdx (setl K) = (coll1 H).objs.mapIdx (made2 (coll1 H)) := by
    refine List.ext_getElem (by simp; omega) (fun i a b => ?_)
    have hi : i < H.objs.length := by simp at a; omega
    simp only [List.getElem_mapIdx]
    rw [hKg i hi, h1g i hi]
    unfold wipeO collO
    by_cases hw : isW T i = true
    · rw [if_pos hw, if_pos hw]
      unfold setl made2 emptyD
      simp
    · rw [if_neg hw, if_neg hw]
      unfold setl made2
      by_cases hlv : H.objs[i].live = true
      · rw [if_pos hlv, if_pos hlv, madeZ_alike (by omega) hal (i : Int) H.objs[i] { H.objs[i] with purple := false } rfl rfl]
      · rw [if_neg hlv, if_neg hlv]
  rw [e, ← hK]
  rfl
def freedAt (H : HeapD) (ws : List Int) (j : Nat) : List Int := (ws.take j).map (fun i => idZ i (genAt H i))
theorem freedAt_step (H : HeapD) (ws : List Int) (j k : Nat) (hj : j < ws.length) (hk : k < H.objs.length) (hw : ws[j] = (k : Int)) : freedAt H ws (j + 1) = freedAt H ws j ++ [idZ (k : Int) H.objs[k].gen] := by
  unfold freedAt
  rw [List.take_succ_eq_append_getElem hj, hw, List.map_append]
  have e : genAt H (k : Int) = H.objs[k].gen := by unfold genAt; rw [show ((k : Int)).toNat = k from by omega, List.getElem?_eq_getElem hk]
  simp [e]
end Go.Proofs.Ytnjplfofcjonhaa

namespace Go.Proofs.Ytnjplfofcjonhaa
open Go.RowKit
set_option linter.unusedVariables false
set_option maxRecDepth 100000
set_option maxHeartbeats 4000000 in
theorem iTrialNew_calls (v : Value) (H : HeapD) (w : World) (h : RdH w v H) (hs : SmallH H) (hcap : CapH v) :
    Calls Try.prog 98 #[v] w fun e w' => ∃ s : TSh, e = .returned s.v ∧ TM w' w.heap.size s (trialNew H) ∧ Below w.heap.size w w' := by
  obtain ⟨ao, co, aw, cw, ab, cb, sa, sc, rfl, ro, -, -, -⟩ := h
  have hn := hs.objs
  obtain ⟨_, _, _, _, _, _, _, _, _, _, _, _, ev, hcap, -⟩ := hcap
  simp only [Value.agg.injEq, List.cons.injEq, Value.slice.injEq, Array.mk.injEq] at ev
  obtain ⟨⟨rfl, rfl, rfl⟩, -⟩ := ev
  clear hs
  obtain ⟨W, hW⟩ : ∃ W, W = (w.alloc (.cells #[.slice ao H.objs.length co, .slice aw H.weaks.length cw, .slice ab H.buffer.length cb, .slice sa H.sites.length sc] 29)).alloc (.cells #[.slice none 0 0, .slice none 0 0] 77) := ⟨_, rfl⟩
  have BW : Below w.heap.size w W := by rw [hW]; exact ((Below.refl _ _).alloc (Nat.le_refl _) _).alloc (by simp) _
  have hWs : W.heap.size = w.heap.size + 2 := by rw [hW]; simp
  have p0 : W.cell? ⟨w.heap.size, 0, none⟩ = some (.slice ao H.objs.length co) := by
    have f1 := Four.new w (.slice ao H.objs.length co) (.slice aw H.weaks.length cw) (.slice ab H.buffer.length cb) (.slice sa H.sites.length sc)
    have hb2 : Below (w.heap.size + 1) (w.alloc (.cells #[.slice ao H.objs.length co, .slice aw H.weaks.length cw, .slice ab H.buffer.length cb, .slice sa H.sites.length sc] 29)) W := by rw [hW]; exact (Below.refl _ _).alloc (by simp) _
    exact (hb2.cell (p := ⟨w.heap.size, 0, none⟩) (by simp)).trans (f1.cell 0)
  have FR : Two W (w.heap.size + 1) (.slice none 0 0) (.slice none 0 0) := by
    rw [hW]
    have f1 := Two.new (w.alloc (.cells #[.slice ao H.objs.length co, .slice aw H.weaks.length cw, .slice ab H.buffer.length cb, .slice sa H.sites.length sc] 29)) (.slice none 0 0) (.slice none 0 0)
    simpa using f1
  have HP : Hid (∀ X, Below W.heap.size W X → X.cell? ⟨w.heap.size, 0, none⟩ = some (.slice ao H.objs.length co)) := fun X hX => (hX.cell (p := ⟨w.heap.size, 0, none⟩) (by show w.heap.size < _; omega)).trans p0
  have HR : Hid (∀ X, Below W.heap.size W X → RdO X ao H.objs) := fun X hX => rdO_later (rdO_later ro BW) hX
  have HFR : Hid (∀ X, Below W.heap.size W X → Two X (w.heap.size + 1) (.slice none 0 0) (.slice none 0 0)) := fun X hX => FR.later hX (by omega)
  have HWs : Hid (W.heap.size = w.heap.size + 2) := hWs
  have HBW : Hid (Below w.heap.size w W) := BW
  have HT0 : Hid _ := ti_start W
  have HCS : Hid (∀ (j : Nat) (h : j < H.objs.length), (H.objs.take (j + 1)).map (·.count) = (H.objs.take j).map (·.count) ++ [H.objs[j].count]) := fun j h => cnt_step H j h
  have HZS : Hid (∀ (j : Nat) (h : j < H.objs.length), (H.objs.take (j + 1)).map (fun _ => (0 : Int)) = (H.objs.take j).map (fun _ => (0 : Int)) ++ [0]) := fun j h => zer_step H j h
  have HE : Hid (∀ j : Nat, j ≤ 8 → j ≤ H.objs.length → (j = 8 ∨ j = H.objs.length) → trialNew H = ⟨(H.objs.take j).map (·.count), (H.objs.take j).map (fun _ => 0)⟩) := by
    intro j h8 hl hj
    unfold trialNew
    rcases hj with rfl | rfl
    · rfl
    · rw [List.take_of_length_le h8, List.take_of_length_le (Nat.le_refl _)]
  obtain ⟨n, hnn⟩ : ∃ n, H.objs.length = n := ⟨_, rfl⟩
  have Hn : Hid (H.objs.length = n) := hnn
  rw [hnn] at hn hW HP HE hcap ⊢
  obtain ⟨gt, hgt⟩ : ∃ gt, W.heap.size = gt := ⟨_, rfl⟩
  have Hgt : Hid (W.heap.size = gt) := hgt
  rw [hgt] at HP HR HFR HT0
  have HR8 : Hid (∀ X, Below gt W X → RdO X ao H.objs) := HR
  obtain ⟨m, hm, hm8⟩ : ∃ m : Nat, m = min n 8 ∧ m ≤ 8 := ⟨_, rfl, Nat.min_le_right _ _⟩
  have hmn : m ≤ n := by omega
  have HM : Hid (m = 8 ∨ m = n) := by show _ ∨ _; omega
  have hmc : min n 8 ≤ co := by omega
  clear ro p0 FR BW hnn
  go_enter Try.func98, Try.ntmps98
  go_wp2
  rw [← hW, ← hWs, hgt]
  clear hW hWs hgt
  go_loopw [14] (fun i wr => ∃ (j : Nat) (xa : Option Addr) (xc : Nat) (ya : Option Addr) (yc : Nat), i = .int .i64 (j : Int) ∧ j ≤ m ∧ Hid (TI W wr gt (.slice xa j xc) (.slice ya j yc) ((H.objs.take j).map (·.count)) ((H.objs.take j).map (fun _ => 0)))) (fun i _ => m - (intOf i).toNat)
  case atStart => exact ⟨0, none, 0, none, 0, rfl, by omega, HT0⟩
  case round =>
    obtain ⟨j, xa, xc, ya, yc, rfl, hjm, HI⟩ := hrel
    by_cases hlt : j < m
    · have hj2 : j < H.objs.length := by have := Hn.out; omega
      obtain ⟨g, off, f, fc, rfl, hg, hc, -⟩ := HR.out wr HI.out.bel j hj2
      have HXS : Hid (_ = _) := HCS.out j hj2
      have HYS : Hid (_ = _) := HZS.out j hj2
      obtain ⟨o, ho⟩ : ∃ o, H.objs[j] = o := ⟨_, rfl⟩
      rw [ho] at hc HXS
      obtain ⟨c0, c1, c2, c3, c4, c5, c6, c7⟩ := hc
      have hll : ((H.objs.take j).map (fun o : ObjD => o.count)).length = j := by rw [List.length_map, List.length_take]; omega
      have hly0 : ((H.objs.take j).map (fun _ : ObjD => (0 : Int))).length = j := by rw [List.length_map, List.length_take]; omega
      obtain ⟨XS, hXS⟩ : ∃ XS, (H.objs.take j).map (fun o : ObjD => o.count) = XS := ⟨_, rfl⟩
      obtain ⟨YS, hYS⟩ : ∃ YS, (H.objs.take j).map (fun _ : ObjD => (0 : Int)) = YS := ⟨_, rfl⟩
      rw [hXS] at HI HXS hll
      rw [hYS] at HI HYS hly0
      have HLX : Hid (XS.length = j) := hll
      have HLY : Hid (YS.length = j) := hly0
      clear ho hXS hYS hll hly0
      generalize o.live = b0 at *
      generalize o.gen = z1 at *
      generalize o.site = z2 at *
      generalize o.holds = z3 at *
      generalize o.roots = z4 at *
      generalize o.count = z at *
      generalize o.field.length = fl at *
      generalize o.purple = b7 at *
      have t0 : wr.cell? ⟨gt, 0, none⟩ = some (.slice xa j xc) := HI.out.t.cell 0
      have hgl := HI.out.t.lt
      have hgn : ¬ gt = wr.heap.size := by omega
      have HY : Hid (∀ X, Below wr.heap.size wr X → TI W X gt (.slice xa j xc) (.slice ya j yc) XS YS) := fun X hX => ⟨HI.out.bel.trans (hX.mono (by omega)), ownI_later HI.out.x hX, ownI_later HI.out.y hX, HI.out.dif, HI.out.t.same (hX.block gt hgl)⟩
      obtain ⟨U, hU⟩ : ∃ U, U = wr.alloc (.cells #[.bool b0, .int .i64 z1, .int .i64 z2, .int .i64 z3, .int .i64 z4, .int .i64 z, .slice f fl fc, .bool b7] 39) := ⟨_, rfl⟩
      obtain ⟨V, hV⟩ : ∃ V, V = U.alloc (.cells #[.int .i64 z] 3) := ⟨_, rfl⟩
      have bU : Below wr.heap.size wr U := by rw [hU]; exact (Below.refl _ _).alloc (Nat.le_refl _) _
      have sU : U.heap.size = wr.heap.size + 1 := by rw [hU]; simp
      have HIV : Hid _ := HY.out V (by rw [hV]; exact bU.alloc bU.size _)
      have hVc : V.cell? ⟨U.heap.size, 0, none⟩ = some (.int .i64 z) := by rw [hV, World.cell?_alloc_mark]; rfl
      have HVs : Hid (gt + 1 ≤ V.heap.size) := by have := HIV.out.t.lt; exact this
      have HU : Hid (U = _) := hU
      have HsU : Hid (U.heap.size = wr.heap.size + 1) := sU
      clear hU bU sU HI
      go_wp2_with (at_builtin; rw [← HU.out]; try rw [← HsU.out]; rw [← hV]; clear hV HU HsU; refine wpList_appendL rfl _ _ rfl (gt + 1) _ _ rfl HIV.out.x ⟨U.heap.size, 0, none⟩ z rfl hVc ?hlen HVs.out ?_)
      case hlen => rw [HLX.out]; omega
      intro v4 X4 O4 s4 H4 A4 B4
      obtain ⟨xa2, xc2, rfl, -⟩ := rdI_own O4
      have hlx : (XS ++ [z]).length = j + 1 := by rw [List.length_append, HLX.out]; rfl
      rw [hlx] at O4 A4 ⊢
      have T4 : Two X4 gt (.slice xa j xc) (.slice ya j yc) := HIV.out.t.same (H4.out gt HIV.out.t.lt (fun e => by have := (ownI_lt HIV.out.x gt e).1; omega))
      have y4 : ownI X4 (gt + 1) (.slice ya j yc) _ := ownI_same HIV.out.y (fun q hq => H4.out q (ownI_lt HIV.out.y q hq).2 (fun e => HIV.out.dif q e hq))
      have HI2 : Hid _ := ti_x HIV.out (B4.out gt W HIV.out.bel (by omega)) T4 y4 O4 (by
        rcases A4.out with e | e
        · exact .inl e
        · exact .inr ⟨_, e, Nat.le_refl _⟩)
      have d4 : X4.cell? ⟨gt, 0, none⟩ = some (.slice xa j xc) := T4.cell 0
      have f4 := T4.frozen 0
      obtain ⟨Y, hY⟩ : ∃ Y, Y = X4.setCell ⟨gt, 0, none⟩ (.slice xa2 (j + 1) xc2) := ⟨_, rfl⟩
      rw [← hY] at HI2
      have y1 : Y.cell? ⟨gt, 1, none⟩ = some (.slice ya j yc) := HI2.out.t.cell 1
      have hgY := HI2.out.t.lt
      have hgY2 : ¬ gt = Y.heap.size := by omega
      have HY2 : Hid (∀ X, Below Y.heap.size Y X → TI W X gt (.slice xa2 (j + 1) xc2) (.slice ya j yc) (XS ++ [z]) YS) := fun X hX => ⟨HI2.out.bel.trans (hX.mono (by omega)), ownI_later HI2.out.x hX, ownI_later HI2.out.y hX, HI2.out.dif, HI2.out.t.same (hX.block gt hgY)⟩
      obtain ⟨V5, hV5⟩ : ∃ V, V = Y.alloc (.cells #[.int .i64 0] 3) := ⟨_, rfl⟩
      have HIV5 : Hid _ := HY2.out V5 (by rw [hV5]; exact (Below.refl _ _).alloc (Nat.le_refl _) _)
      have hVc5 : V5.cell? ⟨Y.heap.size, 0, none⟩ = some (.int .i64 0) := by rw [hV5, World.cell?_alloc_mark]; rfl
      have HVs5 : Hid (gt + 1 ≤ V5.heap.size) := by have := HIV5.out.t.lt; exact this
      clear T4 y4 O4 H4 A4 B4 hVc c0 c1 c2 c3 c4 c5 c6 c7 t0 HY HY2
      rw [hY] at y1
      have hYs : (X4.setCell ⟨gt, 0, none⟩ (.slice xa2 (j + 1) xc2)).heap.size = Y.heap.size := by rw [hY]
      have HhY : Hid (Y = _) := hY
      clear hY
      go_wp2_with (at_builtin; rw [← HhY.out]; rw [← hV5]; clear hV5; refine wpList_appendL rfl _ _ rfl (gt + 1) _ _ rfl HIV5.out.y ⟨Y.heap.size, 0, none⟩ 0 rfl hVc5 ?hlen2 HVs5.out ?_)
      case hlen2 => rw [HLY.out]; omega
      intro v6 X6 O6 s6 H6 A6 B6
      obtain ⟨ya4, yc4, rfl, -⟩ := rdI_own O6
      have hly : (YS ++ [0]).length = j + 1 := by rw [List.length_append, HLY.out]; rfl
      rw [hly] at O6 A6 ⊢
      have T6 : Two X6 gt (.slice xa2 (j + 1) xc2) (.slice ya j yc) := HIV5.out.t.same (H6.out gt HIV5.out.t.lt (fun e => by have := (ownI_lt HIV5.out.y gt e).1; omega))
      have x6 : ownI X6 (gt + 1) (.slice xa2 (j + 1) xc2) _ := ownI_same HIV5.out.x (fun q hq => H6.out q (ownI_lt HIV5.out.x q hq).2 (fun e => HIV5.out.dif q hq e))
      have HF : Hid _ := ti_y HIV5.out (B6.out gt W HIV5.out.bel (by omega)) T6 x6 O6 (by
        rcases A6.out with e | e
        · exact .inl e
        · exact .inr ⟨_, e, Nat.le_refl _⟩)
      have e4 : X6.cell? ⟨gt, 1, none⟩ = some (.slice ya j yc) := T6.cell 1
      have g4 := T6.frozen 1
      rw [← HXS.out, ← HYS.out] at HF
      clear T6 x6 O6 H6 A6 B6 y1 d4 f4
      go_wp2
      go_roundw
      case rel => exact ⟨j + 1, xa2, xc2, ya4, yc4, by go_num, by omega, HF⟩
      case measure => simp [intOf]; omega
    · have e8 : m ≤ j := by omega
      have HEE : Hid (_ = _) := HE.out j (by omega) (by omega) (by have := HM.out; omega)
      have TW := HI.out.t
      have RW := HFR.out _ HI.out.bel
      have x0 : wr.cell? ⟨gt, 0, none⟩ = some (.slice xa j xc) := TW.cell 0
      have x1 : wr.cell? ⟨gt, 1, none⟩ = some (.slice ya j yc) := TW.cell 1
      have r0 : wr.cell? ⟨w.heap.size + 1, 0, none⟩ = some (.slice none 0 0) := RW.cell 0
      have r1 : wr.cell? ⟨w.heap.size + 1, 1, none⟩ = some (.slice none 0 0) := RW.cell 1
      have z0 := RW.frozen 0
      have z1 := RW.frozen 1
      have HTM : Hid (TM (setTwo wr (w.heap.size + 1) (.slice xa j xc) (.slice ya j yc)) w.heap.size ⟨xa, j, xc, ya, j, yc⟩ (trialNew H)) := by
        have oth : ∀ q, gt + 1 ≤ q → (setTwo wr (w.heap.size + 1) (.slice xa j xc) (.slice ya j yc)).heap[q]? = wr.heap[q]? := fun q hq => setTwo_other _ _ _ _ q (by have := HWs.out; have := Hgt.out; omega)
        rw [HEE.out]
        have hle : w.heap.size ≤ gt + 1 := by have := HWs.out; have := Hgt.out; omega
        exact ⟨ownI_mono (ownI_same HI.out.x (fun q hq => oth q (ownI_lt HI.out.x q hq).1)) hle, ownI_mono (ownI_same HI.out.y (fun q hq => oth q (ownI_lt HI.out.y q hq).1)) hle, HI.out.dif⟩
      have HBL : Hid (Below w.heap.size w (setTwo wr (w.heap.size + 1) (.slice xa j xc) (.slice ya j yc))) := by
        unfold setTwo
        exact ((HBW.out.trans (HI.out.bel.mono (by have := HWs.out; have := Hgt.out; omega))).setCell (by simp) _).setCell (by simp) _
      clear TW RW HI HEE
      go_wp2
      exact bodyPost_ret (v := .agg #[.slice xa j xc, .slice ya j yc]) (by simp [results, Try.results98, go_sem, *]) rfl ⟨⟨xa, j, xc, ya, j, yc⟩, rfl, HTM.out, HBL.out⟩
end Go.Proofs.Ytnjplfofcjonhaa

namespace Go.Proofs.Ytnjplfofcjonhaa
open Go.RowKit Go.ChangeShapes Go.WideShapes Go.ChangeAt Go.Deep
set_option linter.unusedVariables false
set_option maxRecDepth 100000
def markT (s : TSh) (k : Int) : Sts := mkI s.a k s.n ++ mkI s.b (k + (s.n : Int)) s.m
structure CanT (w : World) (s : TSh) : Prop where
  x : CanI w s.a s.n
  y : CanI w s.b s.m
  ln : s.n ≤ 16777216
  lm : s.m ≤ 16777216
theorem tsh_v (s : TSh) : s.v = .agg #[.slice s.a s.n s.c, .slice s.b s.m s.d] := rfl
theorem TM.can {w : World} {B : Nat} {s : TSh} {T : TrialD} (h : TM w B s T) (h1 : T.counts.length ≤ 16777216) (h2 : T.colors.length ≤ 16777216) : CanT w s := by
  obtain ⟨l1, l2⟩ := h.lens
  have hx : ownI w B (.slice s.a s.n s.c) T.counts := h.x
  have hy : ownI w B (.slice s.b s.m s.d) T.colors := h.y
  obtain ⟨a, c, e, q, -⟩ := ownI_can hx
  obtain ⟨b, d, e2, q2, -⟩ := ownI_can hy
  simp only [Value.slice.injEq] at e e2
  exact ⟨by rw [e.1, l1]; exact q, by rw [e2.1, l2]; exact q2, by omega, by omega⟩
theorem TM.blk {w : World} {B : Nat} {s : TSh} {T : TrialD} (h : TM w B s T) (k : Int) : ∀ q ∈ markT s k, B ≤ q.1.block ∧ q.1.block < w.heap.size := by
  intro q hq
  rcases List.mem_append.1 hq with hq | hq
  · obtain ⟨-, x, hx, e⟩ := mkI_block _ _ _ _ hq
    have := ownI_lt h.x x.block (by show (Value.slice s.a s.n s.c).ownBlock = _; rw [hx]; rfl)
    rw [e]; exact this
  · obtain ⟨-, x, hx, e⟩ := mkI_block _ _ _ _ hq
    have := ownI_lt h.y x.block (by show (Value.slice s.b s.m s.d).ownBlock = _; rw [hx]; rfl)
    rw [e]; exact this
theorem TM.nodup {w : World} {B : Nat} {s : TSh} {T : TrialD} (h : TM w B s T) (k : Int) : ((markT s k).map (·.1)).Nodup := by
  unfold markT
  rw [List.map_append, List.nodup_append]
  refine ⟨mkI_nodup _ _ _, mkI_nodup _ _ _, ?_⟩
  intro x hx y hy e
  obtain ⟨p, hp, rfl⟩ := List.mem_map.1 hx
  obtain ⟨q, hq, rfl⟩ := List.mem_map.1 hy
  obtain ⟨-, x, h1, e1⟩ := mkI_block _ _ _ _ hp
  obtain ⟨-, y, h2, e2⟩ := mkI_block _ _ _ _ hq
  refine h.dif x.block (by show (Value.slice s.a s.n s.c).ownBlock = _; rw [h1]; rfl) ?_
  show (Value.slice s.b s.m s.d).ownBlock = _
  rw [h2, ← e1, e, e2]; rfl
structure HeldT (w : World) (s : TSh) (k : Int) : Prop where
  all : ∀ q ∈ markT s k, w.cell? q.1 = some q.2
  x : 0 < s.n → ∃ g off, s.a = some ⟨g, off, none⟩ ∧ g < w.heap.size
  y : 0 < s.m → ∃ g off, s.b = some ⟨g, off, none⟩ ∧ g < w.heap.size
theorem HeldT.later {w w' : World} {s : TSh} {k : Int} (h : HeldT w s k) (hb : Below w.heap.size w w') : HeldT w' s k := by
  refine ⟨fun q hq => ?_, fun hn => ?_, fun hn => ?_⟩
  · refine (hb.cell ?_).trans (h.all q hq)
    rcases List.mem_append.1 hq with hq | hq
    · obtain ⟨h0, x, hx, e⟩ := mkI_block _ _ _ _ hq
      obtain ⟨g, off, h1, h2⟩ := h.x h0
      rw [hx] at h1; injection h1 with h1; rw [e, h1]; exact h2
    · obtain ⟨h0, x, hx, e⟩ := mkI_block _ _ _ _ hq
      obtain ⟨g, off, h1, h2⟩ := h.y h0
      rw [hx] at h1; injection h1 with h1; rw [e, h1]; exact h2
  · obtain ⟨g, off, h1, h2⟩ := h.x hn; exact ⟨g, off, h1, Nat.lt_of_lt_of_le h2 hb.size⟩
  · obtain ⟨g, off, h1, h2⟩ := h.y hn; exact ⟨g, off, h1, Nat.lt_of_lt_of_le h2 hb.size⟩
theorem TM.held {w w' : World} {B : Nat} {s : TSh} {T : TrialD} {k : Int} (h : TM w B s T) (h1 : T.counts.length ≤ 16777216) (h2 : T.colors.length ≤ 16777216) (hb : Below w.heap.size (stores w (markT s k)) w') : HeldT w' s k := by
  have hc := h.can h1 h2
  have hz : HeldT (stores w (markT s k)) s k := by
    refine ⟨stores_mem _ (h.nodup k) w (fun p hp => ?_), fun hn => ?_, fun hn => ?_⟩
    · rcases List.mem_append.1 hp with hp | hp
      · exact mkI_some hc.x p hp
      · exact mkI_some hc.y p hp
    · obtain ⟨g, off, e, l, -⟩ := hc.x 0 hn; exact ⟨g, off, e, by rw [stores_size]; exact l⟩
    · obtain ⟨g, off, e, l, -⟩ := hc.y 0 hn; exact ⟨g, off, e, by rw [stores_size]; exact l⟩
  refine hz.later ?_
  rw [stores_size]; exact hb
section
variable {T : Type} {enc : TypeId × Value → T} {w : World} {held : Bool}
end
end Go.Proofs.Ytnjplfofcjonhaa

namespace Go.Proofs.Ytnjplfofcjonhaa
open Go.RowKit
set_option linter.unusedVariables false
set_option maxRecDepth 100000
theorem opSpecMarkGray {t i j k : Tmp} {ty : TypeId} {pos : String} {af : Array Edge} {ats : Array TypeId} {a : Act} {X : World} {K : Act → World → Prop} {Q : Exit → Act → World → Prop} {u v z : Value} {post : Ending → World → Prop} (h1 : a.eval (.tmp i) = u) (h2 : a.eval (.tmp j) = v) (h3 : a.eval (.tmp k) = z) (hC : Calls Try.prog 61 #[u, v, z] X post) (hK : ∀ e w', post e w' → ∃ x, e = .returned x ∧ K (a.put (some t) x) w') :
    Oper.wp Try.prog ⟨some t, .call { callee := .value (.func 61), args := #[.tmp i, .tmp j, .tmp k], argTypes := ats }, ty, pos, af, none⟩ a X K Q := by
  have e1 := ev_tmp h1
  have e2 := ev_tmp h2
  have e3 := ev_tmp h3
  go_simp
  refine hC.mono (fun e w' hp => ?_)
  obtain ⟨x, rfl, hx⟩ := hK e w' hp
  exact hx
theorem opImplMarkGray {t i j k : Tmp} {ty : TypeId} {pos : String} {af : Array Edge} {ats : Array TypeId} {a : Act} {X : World} {K : Act → World → Prop} {Q : Exit → Act → World → Prop} {u v z : Value} {post : Ending → World → Prop} (h1 : a.eval (.tmp i) = u) (h2 : a.eval (.tmp j) = v) (h3 : a.eval (.tmp k) = z) (hC : Calls Try.prog 99 #[u, v, z] X post) (hK : ∀ e w', post e w' → ∃ x, e = .returned x ∧ K (a.put (some t) x) w') :
    Oper.wp Try.prog ⟨some t, .call { callee := .value (.func 99), args := #[.tmp i, .tmp j, .tmp k], argTypes := ats }, ty, pos, af, none⟩ a X K Q := by
  have e1 := ev_tmp h1
  have e2 := ev_tmp h2
  have e3 := ev_tmp h3
  go_simp
  refine hC.mono (fun e w' hp => ?_)
  obtain ⟨x, rfl, hx⟩ := hK e w' hp
  exact hx
theorem opSpecScanFrom {t i j k : Tmp} {ty : TypeId} {pos : String} {af : Array Edge} {ats : Array TypeId} {a : Act} {X : World} {K : Act → World → Prop} {Q : Exit → Act → World → Prop} {u v z : Value} {post : Ending → World → Prop} (h1 : a.eval (.tmp i) = u) (h2 : a.eval (.tmp j) = v) (h3 : a.eval (.tmp k) = z) (hC : Calls Try.prog 62 #[u, v, z] X post) (hK : ∀ e w', post e w' → ∃ x, e = .returned x ∧ K (a.put (some t) x) w') :
    Oper.wp Try.prog ⟨some t, .call { callee := .value (.func 62), args := #[.tmp i, .tmp j, .tmp k], argTypes := ats }, ty, pos, af, none⟩ a X K Q := by
  have e1 := ev_tmp h1
  have e2 := ev_tmp h2
  have e3 := ev_tmp h3
  go_simp
  refine hC.mono (fun e w' hp => ?_)
  obtain ⟨x, rfl, hx⟩ := hK e w' hp
  exact hx
theorem opImplScanFrom {t i j k : Tmp} {ty : TypeId} {pos : String} {af : Array Edge} {ats : Array TypeId} {a : Act} {X : World} {K : Act → World → Prop} {Q : Exit → Act → World → Prop} {u v z : Value} {post : Ending → World → Prop} (h1 : a.eval (.tmp i) = u) (h2 : a.eval (.tmp j) = v) (h3 : a.eval (.tmp k) = z) (hC : Calls Try.prog 100 #[u, v, z] X post) (hK : ∀ e w', post e w' → ∃ x, e = .returned x ∧ K (a.put (some t) x) w') :
    Oper.wp Try.prog ⟨some t, .call { callee := .value (.func 100), args := #[.tmp i, .tmp j, .tmp k], argTypes := ats }, ty, pos, af, none⟩ a X K Q := by
  have e1 := ev_tmp h1
  have e2 := ev_tmp h2
  have e3 := ev_tmp h3
  go_simp
  refine hC.mono (fun e w' hp => ?_)
  obtain ⟨x, rfl, hx⟩ := hK e w' hp
  exact hx
theorem own_two_ne {X : World} {B g : Nat} {v x0 x1 : Value} {zs : List Int} (h : ownI X B v zs) (ht : Two X g x0 x1) : v.ownBlock ≠ some g := by
  intro hv
  rcases h with ⟨h1, ⟨h2, -⟩ | ⟨g2, cap, cur, h2, h3, h4, h5⟩⟩
  · rw [h2] at hv; simp [Value.ownBlock] at hv
  · rw [h2] at hv
    have e : g2 = g := by simpa [Value.ownBlock] using hv
    subst e
    have ht' : X.heap[g2]? = some (.cells #[x0, x1] 77 (0, 0)) := ht
    rw [ht'] at h4
    simp at h4
theorem two_set {X : World} {g : Nat} {x0 x1 : Value} (h : Two X g x0 x1) (y0 y1 : Value) : Two (setTwo X g y0 y1) g y0 y1 := by
  have h1 := heap_setCell_same X g 0 _ _ y0 h
  exact heap_setCell_same _ g 1 _ _ y1 h1
end Go.Proofs.Ytnjplfofcjonhaa

namespace Go.Proofs.Ytnjplfofcjonhaa
open Go.RowKit
set_option linter.unusedVariables false
set_option maxRecDepth 100000
theorem opLoadTw {t i : Tmp} {ty : TypeId} {pos : String} {af : Array Edge} {a : Act} {X : World} {K : Act → World → Prop} {Q : Exit → Act → World → Prop} {g : Nat} {s : TSh} (h1 : a.eval (.tmp i) = .pointer (some ⟨g, 0, none⟩)) (hF : Two X g (.slice s.a s.n s.c) (.slice s.b s.m s.d)) (hK : K (a.put (some t) s.v) X) :
    Oper.wp Try.prog ⟨some t, .load 77 (.tmp i), ty, pos, af, none⟩ a X K Q := by
  have h := ev_tmp h1
  have q0 : X.cell? ⟨g, 0, none⟩ = some (.slice s.a s.n s.c) := hF.cell 0
  have q1 : X.cell? ⟨g, 1, none⟩ = some (.slice s.b s.m s.d) := hF.cell 1
  rw [tsh_v] at hK
  go_simp; exact hK
theorem opCallSl {t i j : Tmp} {ty : TypeId} {pos : String} {af : Array Edge} {ats : Array TypeId} {a : Act} {X : World} {K : Act → World → Prop} {Q : Exit → Act → World → Prop} {u v : Value} {post : Ending → World → Prop} (h1 : a.eval (.tmp i) = u) (h2 : a.eval (.tmp j) = v) (hC : Calls Try.prog 35 #[u, v] X post) (hK : ∀ e w', post e w' → ∃ x, e = .returned x ∧ K (a.put (some t) x) w') :
    Oper.wp Try.prog ⟨some t, .call { callee := .value (.func 35), args := #[.tmp i, .tmp j], argTypes := ats }, ty, pos, af, none⟩ a X K Q := by
  have e1 := ev_tmp h1
  have e2 := ev_tmp h2
  go_simp
  refine hC.mono (fun e w' hp => ?_)
  obtain ⟨x, rfl, hx⟩ := hK e w' hp
  exact hx
def RS (B : Nat) (vh vt vi vs : Value) (G : TrialD) : Nat → World → Value → Prop
  | 0, _, v => v = vh
  | 1, _, v => v = vt
  | 2, _, v => v = vh
  | 3, _, v => v = vi
  | 4, _, v => v = vs
  | 5, X, v => ∃ s : TSh, v = s.v ∧ TM X B s G
  | _, _, _ => True
theorem rs_mono {B : Nat} {vh vt vi vs : Value} {G : TrialD} (i : Nat) (X Y : World) (v : Value) (h : RS B vh vt vi vs G i X v) (hb : Below X.heap.size X Y) : RS B vh vt vi vs G i Y v := by
  match i, h with
  | 0, h => exact h
  | 1, h => exact h
  | 2, h => exact h
  | 3, h => exact h
  | 4, h => exact h
  | 5, ⟨s, h1, h2⟩ => exact ⟨s, h1, h2.later hb⟩
  | n + 6, _ => exact trivial
structure SF (w wr : World) (gt : Nat) (x0 x1 x2 x3 : Value) (q : TSh) (T : TrialD) : Prop where
  bel : Below w.heap.size w wr
  heap : Four wr w.heap.size x0 x1 x2 x3
  res : Two wr (w.heap.size + 1) (.slice none 0 0) (.slice none 0 0)
  t : Two wr gt (.slice q.a q.n q.c) (.slice q.b q.m q.d)
  lo : w.heap.size + 2 ≤ gt
  tm : TM wr (w.heap.size + 2) q T
theorem sf_set {w wr X : World} {gt : Nat} {x0 x1 x2 x3 : Value} {q q2 : TSh} {T T2 : TrialD} (h : SF w wr gt x0 x1 x2 x3 q T) (hX : Below wr.heap.size wr X) (hT : TM X (w.heap.size + 2) q2 T2) : SF w (setTwo X gt (.slice q2.a q2.n q2.c) (.slice q2.b q2.m q2.d)) gt x0 x1 x2 x3 q2 T2 := by
  have ht := h.t.later hX h.t.lt
  have hl := h.lo
  have oth : ∀ g, g ≠ gt → (setTwo X gt (.slice q2.a q2.n q2.c) (.slice q2.b q2.m q2.d)).heap[g]? = X.heap[g]? := fun g hg => setTwo_other _ _ _ _ g hg
  refine ⟨?_, (h.heap.later hX).same (oth _ (by omega)), (h.res.later hX h.res.lt).same (oth _ (by omega)), two_set ht _ _, h.lo, ⟨ownI_same hT.x (fun i hi => oth i (fun e => own_two_ne hT.x ht (e ▸ hi))), ownI_same hT.y (fun i hi => oth i (fun e => own_two_ne hT.y ht (e ▸ hi))), hT.dif⟩⟩
  unfold setTwo
  exact ((h.bel.trans (hX.mono h.bel.size)).setCell (p := ⟨gt, 0, none⟩) (by show w.heap.size ≤ gt; omega) _).setCell (p := ⟨gt, 1, none⟩) (by show w.heap.size ≤ gt; omega) _
set_option maxHeartbeats 16000000 in
theorem iSusp_calls (v : Value) (H : HeapD) (w : World) (h : RdH w v H) (hs : SmallH H) (h8 : H.objs.length = 8) (hcap : CapH v) (hf : ∀ o ∈ H.objs, ∀ z ∈ o.field, in64 z) (hbf : ∀ z ∈ H.buffer, in64 z) :
    Calls Try.prog 69 #[v] w fun e w' => ∃ s : TSh, e = .returned s.v ∧ TM w' w.heap.size s (suspT H) ∧ Below w.heap.size w w' := by
  have HRH : Hid (∀ X, Below w.heap.size w X → RdH X v H) := fun X hX => rdH_later h hX
  have CN : Hid (∀ X, Below w.heap.size w X → _) := fun X hX => iTrialNew_calls v H X (HRH.out X hX) hs hcap
  have HSM : Hid (SmallH H) := hs
  have HL8 : Hid (H.objs.length = 8) := h8
  have HF : Hid (∀ o ∈ H.objs, ∀ z ∈ o.field, in64 z) := hf
  have HBF : Hid (∀ z ∈ H.buffer, in64 z) := hbf
  have HG0 : Hid (suspG H 0 = trialNew H) := suspG_zero H
  have HS0 : Hid (suspS H 0 = suspG H H.buffer.length) := suspS_zero H
  have HSE : Hid (suspT H = suspS H H.buffer.length) := rfl
  have hbl := hs.buffer
  obtain ⟨ao, co, aw, cw, ab, cb, sa, sc, rfl, -, -, ri, -⟩ := h
  have HRB : Hid (∀ X, Below w.heap.size w X → RdI X ab H.buffer) := fun X hX => rdI_later ri hX
  obtain ⟨nb, hnb⟩ : ∃ nb, H.buffer.length = nb := ⟨_, rfl⟩
  have HLB : Hid (H.buffer.length = nb) := hnb
  rw [h8, hnb] at HRH CN ⊢
  rw [hnb] at hbl HS0 HSE
  generalize H.weaks.length = nw at *
  generalize H.sites.length = ns at *
  obtain ⟨W, hW⟩ : ∃ W, W = (w.alloc (.cells #[.slice ao 8 co, .slice aw nw cw, .slice ab nb cb, .slice sa ns sc] 29)).alloc (.cells #[.slice none 0 0, .slice none 0 0] 77) := ⟨_, rfl⟩
  have BW : Below w.heap.size w W := by rw [hW]; exact ((Below.refl _ _).alloc (Nat.le_refl _) _).alloc (by simp) _
  have sW : W.heap.size = w.heap.size + 2 := by rw [hW]; simp
  have FH : Four W w.heap.size (.slice ao 8 co) (.slice aw nw cw) (.slice ab nb cb) (.slice sa ns sc) := by
    have f := Four.new w (.slice ao 8 co) (.slice aw nw cw) (.slice ab nb cb) (.slice sa ns sc)
    have f2 := f.later ((Below.refl _ _).alloc (Nat.le_refl _) (.cells #[.slice none 0 0, .slice none 0 0] 77))
    rw [hW]; exact f2
  have FR : Two W (w.heap.size + 1) (.slice none 0 0) (.slice none 0 0) := by
    have f := Two.new (w.alloc (.cells #[.slice ao 8 co, .slice aw nw cw, .slice ab nb cb, .slice sa ns sc] 29)) (.slice none 0 0) (.slice none 0 0)
    rw [← hW] at f
    simpa using f
  clear hs h8 hcap hf hbf ri hnb
  go_enter Try.func69, Try.ntmps69
  go_wp2_with fail
  rw [← hW]
  clear hW
  refine (CN.out _ BW).mono ?_
  rintro e w1 ⟨q0, rfl, M1, b1⟩
  have hv0 := tsh_v q0
  obtain ⟨V, hV⟩ : ∃ V, V = w1.alloc (.cells #[.slice q0.a q0.n q0.c, .slice q0.b q0.m q0.d] 77) := ⟨_, rfl⟩
  have BV : Below w1.heap.size w1 V := by rw [hV]; exact (Below.refl _ _).alloc (Nat.le_refl _) _
  have hs1 := b1.size
  have HSF0 : Hid (SF w V w1.heap.size (.slice ao 8 co) (.slice aw nw cw) (.slice ab nb cb) (.slice sa ns sc) q0 (suspG H 0)) := by
    have bb := b1.trans (BV.mono b1.size)
    refine ⟨BW.trans (bb.mono BW.size), (FH.later b1).later BV, (FR.later b1 (by omega)).later BV (by omega), by rw [hV]; exact Two.new w1 _ _, by omega, ?_⟩
    rw [HG0.out, ← sW]
    exact M1.later BV
  have c2 : w1.cell? ⟨w.heap.size, 2, none⟩ = some (.slice ab nb cb) := (FH.later b1).cell 2
  have hq0 : w.heap.size < w1.heap.size := by omega
  have hn0 : ¬ w.heap.size = w1.heap.size := by omega
  rw [hv0]
  clear M1 BV FH FR BW b1 CN
  go_wp2
  rw [← hV]
  obtain ⟨gt, hgt⟩ : ∃ gt, w1.heap.size = gt := ⟨_, rfl⟩
  rw [hgt] at HSF0 ⊢
  clear hV c2 hgt hq0 hn0 hs1 sW
  go_loopw [13] (fun i wr => ∃ (j : Nat) (q : TSh), i = .int .i64 (j : Int) ∧ j ≤ nb ∧ Hid (SF w wr gt (.slice ao 8 co) (.slice aw nw cw) (.slice ab nb cb) (.slice sa ns sc) q (suspG H j))) (fun i _ => nb - (intOf i).toNat)
  case atStart => exact ⟨0, _, rfl, by omega, HSF0⟩
  case round =>
    obtain ⟨j, q, rfl, hjn, HI⟩ := hrel
    by_cases hlt : j < nb
    · have hj2 : j < H.buffer.length := by have := HLB.out; omega
      obtain ⟨bg, bo, rfl, hbg, hbc⟩ := HRB.out wr HI.out.bel j hj2
      have hz64 := HBF.out _ (List.getElem_mem hj2)
      have HST : Hid (suspG H (j + 1) = grayF H (suspG H j) H.buffer[j]) := suspG_step H j hj2
      have HE8 : Hid (Eight (suspG H j)) := suspG_eight H HL8.out j
      generalize H.buffer[j] = id at *
      have CS : Hid (∀ X, Below wr.heap.size wr X → _) := fun X hX => iSlotOf_calls _ H id X (HRH.out X (HI.out.bel.trans (hX.mono HI.out.bel.size))) (by rw [HL8.out]; omega) hz64.1 hz64.2
      have CM : Hid (∀ X, Below wr.heap.size wr X → _) := fun X hX => iGray_calls _ _ H (suspG H j) (slotZ H id) X (HRH.out X (HI.out.bel.trans (hX.mono HI.out.bel.size))) ((HI.out.tm.later hX).rd) HSM.out ⟨by rw [HE8.out.1]; omega, by rw [HE8.out.2]; omega⟩ HF.out (suspG H (j + 1)) (fun hok => by rw [HST.out]; unfold grayF; rw [if_pos hok.lo]) (fun hno => by rw [HST.out]; unfold grayF; rw [if_neg (fun h0 => hno ((okT_of_slot H _ id HE8.out HL8.out).2 h0))])
      generalize slotZ H id = sl at *
      have hjl : (j : Int) < (nb : Int) := by omega
      have hq1 := HI.out.t
      clear hz64 HST
      go_wp2
      refine wp_region_last 6 (by kernel_rfl) (by kernel_rfl) (RS (w.heap.size + 2) (.agg #[.slice ao 8 co, .slice aw nw cw, .slice (some ⟨bg, bo, none⟩) nb cb, .slice sa ns sc]) q.v (.int .i64 id) (.int .i64 sl) (suspG H (j + 1))) rs_mono ?_ ?_
      · intro i o hi ho a X hX hA hdep
        have FX := HI.out.heap.later hX
        have TX := HI.out.t.later hX HI.out.t.lt
        match i, hi, ho with
        | 0, _, ho =>
          obtain rfl := Option.some.inj ho
          exact opLoadHp (alike_at hA (t := 1) (by kernel_rfl)) FX ⟨_, rfl, Below.refl _ _, rfl⟩
        | 1, _, ho =>
          obtain rfl := Option.some.inj ho
          exact opLoadTw (alike_at hA (t := 3) (by kernel_rfl)) TX ⟨_, rfl, Below.refl _ _, rfl⟩
        | 2, _, ho =>
          obtain rfl := Option.some.inj ho
          exact opLoadHp (alike_at hA (t := 1) (by kernel_rfl)) FX ⟨_, rfl, Below.refl _ _, rfl⟩
        | 3, _, ho =>
          obtain rfl := Option.some.inj ho
          exact opMove (alike_at hA (t := 5) (by kernel_rfl)) ⟨_, rfl, Below.refl _ _, rfl⟩
        | 4, _, ho =>
          obtain rfl := Option.some.inj ho
          have e1 : a.eval (.tmp 19) = .agg #[.slice ao 8 co, .slice aw nw cw, .slice (some ⟨bg, bo, none⟩) nb cb, .slice sa ns sc] := hdep ⟨2, .data⟩ (by simp) rfl 19 rfl
          have e2 : a.eval (.tmp 20) = .int .i64 id := hdep ⟨3, .data⟩ (by simp) rfl 20 rfl
          refine opCallSl e1 e2 (CS.out X hX) ?_
          rintro e w' ⟨rfl, hb⟩
          exact ⟨_, rfl, _, rfl, hb, rfl⟩
        | 5, _, ho =>
          obtain rfl := Option.some.inj ho
          have e1 : a.eval (.tmp 17) = .agg #[.slice ao 8 co, .slice aw nw cw, .slice (some ⟨bg, bo, none⟩) nb cb, .slice sa ns sc] := hdep ⟨0, .data⟩ (by simp) rfl 17 rfl
          have e2 : a.eval (.tmp 18) = q.v := hdep ⟨1, .data⟩ (by simp) rfl 18 rfl
          have e3 : a.eval (.tmp 21) = .int .i64 sl := hdep ⟨4, .data⟩ (by simp) rfl 21 rfl
          refine opImplMarkGray e1 e2 e3 (CM.out X hX) ?_
          rintro e w' ⟨x, rfl, hx, hb⟩
          exact ⟨_, rfl, _, rfl, hb, x, rfl, hx.mono (by have := hX.size; have := HI.out.bel.size; have := HI.out.lo; have := HI.out.t.lt; omega)⟩
      · intro o ho a X hX hA hdep
        obtain rfl := Option.some.inj ho
        obtain ⟨q2, e5, hT5⟩ := hdep ⟨5, .data⟩ (by simp) rfl 22 rfl
        have e3 : a.eval (.tmp 3) = .pointer (some ⟨gt, 0, none⟩) := alike_at hA (t := 3) (by kernel_rfl)
        have hTw := HI.out.t.later hX HI.out.t.lt
        rw [tsh_v] at e5
        refine opStoreT e3 e5 hTw ?_
        have HI2 : Hid (SF w (setTwo X gt (.slice q2.a q2.n q2.c) (.slice q2.b q2.m q2.d)) gt (.slice ao 8 co) (.slice aw nw cw) (.slice (some ⟨bg, bo, none⟩) nb cb) (.slice sa ns sc) q2 (suspG H (j + 1))) := sf_set HI.out hX hT5
        obtain ⟨us, hus, rfl⟩ := alike_tmps hA [17, 18, 19, 20, 21, 22] (by kernel_rfl)
        clear hdep hA hus e3 e5 hTw ho hT5 CS CM
        generalize setTwo X gt (.slice q2.a q2.n q2.c) (.slice q2.b q2.m q2.d) = Y at *
        simp only [List.mapIdx_cons, List.mapIdx_nil, Nat.reduceAdd, List.contains_cons, List.contains_nil, Nat.reduceBEq, Bool.or_false, Bool.or_true, if_true, if_false, Bool.false_eq_true]
        go_wp2
        go_roundw
        case rel => exact ⟨j + 1, q2, by go_num, by omega, HI2⟩
        case measure => simp [intOf]; omega
    · have hjn2 : nb ≤ j := by omega
      have HJN : Hid (j = nb) := by show _ = _; omega
      have c2 : wr.cell? ⟨w.heap.size, 2, none⟩ = some (.slice ab nb cb) := HI.out.heap.cell 2
      have HSF1 : Hid (SF w wr gt (.slice ao 8 co) (.slice aw nw cw) (.slice ab nb cb) (.slice sa ns sc) q (suspS H 0)) := by
        have h2 : suspG H j = suspS H 0 := by rw [HS0.out, HJN.out]
        rw [← h2]; exact HI.out
      go_wp2
      clear c2 HI HJN hlt hjn hjn2
      go_loopw [27] (fun i wr => ∃ (j : Nat) (q : TSh), i = .int .i64 (j : Int) ∧ j ≤ nb ∧ Hid (SF w wr gt (.slice ao 8 co) (.slice aw nw cw) (.slice ab nb cb) (.slice sa ns sc) q (suspS H j))) (fun i _ => nb - (intOf i).toNat)
      case atStart => exact ⟨0, _, rfl, by omega, HSF1⟩
      case round =>
        obtain ⟨j, q, rfl, hjn, HI⟩ := hrel
        by_cases hlt : j < nb
        · have hj2 : j < H.buffer.length := by have := HLB.out; omega
          obtain ⟨bg, bo, rfl, hbg, hbc⟩ := HRB.out wr HI.out.bel j hj2
          have hz64 := HBF.out _ (List.getElem_mem hj2)
          have HST : Hid (suspS H (j + 1) = scanF H (suspS H j) H.buffer[j]) := suspS_step H j hj2
          have HE8 : Hid (Eight (suspS H j)) := suspS_eight H HSM.out HL8.out j
          generalize H.buffer[j] = id at *
          have CS : Hid (∀ X, Below wr.heap.size wr X → _) := fun X hX => iSlotOf_calls _ H id X (HRH.out X (HI.out.bel.trans (hX.mono HI.out.bel.size))) (by rw [HL8.out]; omega) hz64.1 hz64.2
          have CM : Hid (∀ X, Below wr.heap.size wr X → _) := fun X hX => iScan_calls _ _ H (suspS H j) (slotZ H id) X (HRH.out X (HI.out.bel.trans (hX.mono HI.out.bel.size))) ((HI.out.tm.later hX).rd) HSM.out ⟨by rw [HE8.out.1]; omega, by rw [HE8.out.2]; omega⟩ HF.out (suspS H (j + 1)) (fun hok => by rw [HST.out]; unfold scanF; rw [if_pos hok.lo]) (fun hno => by rw [HST.out]; unfold scanF; rw [if_neg (fun h0 => hno ((okT_of_slot H _ id HE8.out HL8.out).2 h0))])
          generalize slotZ H id = sl at *
          have hjl : (j : Int) < (nb : Int) := by omega
          have hq1 := HI.out.t
          clear hz64 HST
          go_wp2
          refine wp_region_last 6 (by kernel_rfl) (by kernel_rfl) (RS (w.heap.size + 2) (.agg #[.slice ao 8 co, .slice aw nw cw, .slice (some ⟨bg, bo, none⟩) nb cb, .slice sa ns sc]) q.v (.int .i64 id) (.int .i64 sl) (suspS H (j + 1))) rs_mono ?_ ?_
          · intro i o hi ho a X hX hA hdep
            have FX := HI.out.heap.later hX
            have TX := HI.out.t.later hX HI.out.t.lt
            match i, hi, ho with
            | 0, _, ho =>
              obtain rfl := Option.some.inj ho
              exact opLoadHp (alike_at hA (t := 1) (by kernel_rfl)) FX ⟨_, rfl, Below.refl _ _, rfl⟩
            | 1, _, ho =>
              obtain rfl := Option.some.inj ho
              exact opLoadTw (alike_at hA (t := 3) (by kernel_rfl)) TX ⟨_, rfl, Below.refl _ _, rfl⟩
            | 2, _, ho =>
              obtain rfl := Option.some.inj ho
              exact opLoadHp (alike_at hA (t := 1) (by kernel_rfl)) FX ⟨_, rfl, Below.refl _ _, rfl⟩
            | 3, _, ho =>
              obtain rfl := Option.some.inj ho
              exact opMove (alike_at hA (t := 7) (by kernel_rfl)) ⟨_, rfl, Below.refl _ _, rfl⟩
            | 4, _, ho =>
              obtain rfl := Option.some.inj ho
              have e1 : a.eval (.tmp 33) = .agg #[.slice ao 8 co, .slice aw nw cw, .slice (some ⟨bg, bo, none⟩) nb cb, .slice sa ns sc] := hdep ⟨2, .data⟩ (by simp) rfl 33 rfl
              have e2 : a.eval (.tmp 34) = .int .i64 id := hdep ⟨3, .data⟩ (by simp) rfl 34 rfl
              refine opCallSl e1 e2 (CS.out X hX) ?_
              rintro e w' ⟨rfl, hb⟩
              exact ⟨_, rfl, _, rfl, hb, rfl⟩
            | 5, _, ho =>
              obtain rfl := Option.some.inj ho
              have e1 : a.eval (.tmp 31) = .agg #[.slice ao 8 co, .slice aw nw cw, .slice (some ⟨bg, bo, none⟩) nb cb, .slice sa ns sc] := hdep ⟨0, .data⟩ (by simp) rfl 31 rfl
              have e2 : a.eval (.tmp 32) = q.v := hdep ⟨1, .data⟩ (by simp) rfl 32 rfl
              have e3 : a.eval (.tmp 35) = .int .i64 sl := hdep ⟨4, .data⟩ (by simp) rfl 35 rfl
              refine opImplScanFrom e1 e2 e3 (CM.out X hX) ?_
              rintro e w' ⟨x, rfl, hx, hb⟩
              exact ⟨_, rfl, _, rfl, hb, x, rfl, hx.mono (by have := hX.size; have := HI.out.bel.size; have := HI.out.lo; have := HI.out.t.lt; omega)⟩
          · intro o ho a X hX hA hdep
            obtain rfl := Option.some.inj ho
            obtain ⟨q2, e5, hT5⟩ := hdep ⟨5, .data⟩ (by simp) rfl 36 rfl
            have e3 : a.eval (.tmp 3) = .pointer (some ⟨gt, 0, none⟩) := alike_at hA (t := 3) (by kernel_rfl)
            have hTw := HI.out.t.later hX HI.out.t.lt
            rw [tsh_v] at e5
            refine opStoreT e3 e5 hTw ?_
            have HI2 : Hid (SF w (setTwo X gt (.slice q2.a q2.n q2.c) (.slice q2.b q2.m q2.d)) gt (.slice ao 8 co) (.slice aw nw cw) (.slice (some ⟨bg, bo, none⟩) nb cb) (.slice sa ns sc) q2 (suspS H (j + 1))) := sf_set HI.out hX hT5
            obtain ⟨us, hus, rfl⟩ := alike_tmps hA [31, 32, 33, 34, 35, 36] (by kernel_rfl)
            clear hdep hA hus e3 e5 hTw ho hT5 CS CM
            generalize setTwo X gt (.slice q2.a q2.n q2.c) (.slice q2.b q2.m q2.d) = Y at *
            simp only [List.mapIdx_cons, List.mapIdx_nil, Nat.reduceAdd, List.contains_cons, List.contains_nil, Nat.reduceBEq, Bool.or_false, Bool.or_true, if_true, if_false, Bool.false_eq_true]
            go_wp2
            go_roundw
            case rel => exact ⟨j + 1, q2, by go_num, by omega, HI2⟩
            case measure => simp [intOf]; omega
        · have hjn2 : nb ≤ j := by omega
          have HJN : Hid (j = nb) := by show _ = _; omega
          have HE : Hid (suspT H = suspS H j) := by show _ = _; rw [HJN.out]; exact HSE.out
          have TW := HI.out.t
          have RW := HI.out.res
          have x0 : wr.cell? ⟨gt, 0, none⟩ = some (.slice q.a q.n q.c) := TW.cell 0
          have x1 : wr.cell? ⟨gt, 1, none⟩ = some (.slice q.b q.m q.d) := TW.cell 1
          have r0 : wr.cell? ⟨w.heap.size + 1, 0, none⟩ = some (.slice none 0 0) := RW.cell 0
          have r1 : wr.cell? ⟨w.heap.size + 1, 1, none⟩ = some (.slice none 0 0) := RW.cell 1
          have z0 := RW.frozen 0
          have z1 := RW.frozen 1
          have HFIN : Hid (TM (setTwo wr (w.heap.size + 1) (.slice q.a q.n q.c) (.slice q.b q.m q.d)) w.heap.size q (suspT H) ∧ Below w.heap.size w (setTwo wr (w.heap.size + 1) (.slice q.a q.n q.c) (.slice q.b q.m q.d))) := by
            rw [HE.out]
            refine ⟨(HI.out.tm.same (fun g hg _ => setTwo_other _ _ _ _ g (by omega))).mono (by omega), ?_⟩
            unfold setTwo
            exact (HI.out.bel.setCell (by simp) _).setCell (by simp) _
          clear TW RW HI
          go_wp2
          exact bodyPost_ret (v := .agg #[.slice q.a q.n q.c, .slice q.b q.m q.d]) (by simp [results, Try.results69, go_sem, *]) rfl ⟨q, rfl, HFIN.out⟩
end Go.Proofs.Ytnjplfofcjonhaa

namespace Go.Proofs.Ytnjplfofcjonhaa
open Go.RowKit
set_option linter.unusedVariables false
set_option maxRecDepth 100000
theorem wipe_small {H : HeapD} (hs : SmallH H) (ws : List Int) (j : Nat) : SmallH (wipeAt H ws j) := by
  refine ⟨by rw [wipeAt_len]; exact hs.objs, fun z hz => ?_, hs.weaks, hs.buffer, hs.sites, hs.names⟩
  obtain ⟨i, hi, rfl⟩ := List.getElem_of_mem hz
  have hi2 : i < H.objs.length := by rw [wipeAt_len] at hi; exact hi
  rw [wipeAt_get H ws j i hi2]
  split
  · show ([-1, -1, -1] : List Int).length ≤ _; simp
  · exact hs.fields _ (List.getElem_mem _)
set_option maxHeartbeats 16000000 in
theorem iCollect_yes (v : Value) (H : HeapD) (w : World) (h : RdH w v H) (hs : SmallH H) (h8 : H.objs.length = 8) (hcap : CapH v) (hf : ∀ o ∈ H.objs, ∀ z ∈ o.field, in64 z) (hbf : ∀ z ∈ H.buffer, in64 z) :
    Calls Try.prog 21 #[v] w fun e w' => ∃ (s : HSh) (vf : Value), e = .returned (.tuple #[s.v, vf]) ∧ HM w' w.heap.size s (collH H) ∧ ownI w' w.heap.size vf (collF H) ∧ (∀ g, vf.ownBlock = some g → ¬ HasB s g) ∧ Below w.heap.size w w' := by
  have HRH : Hid (∀ X, Below w.heap.size w X → RdH X v H) := fun X hX => rdH_later h hX
  have CC : Hid (∀ X, Below w.heap.size w X → _) := fun X hX => iCopy_calls v H X (HRH.out X hX) hs
  have CS : Hid (∀ X, Below w.heap.size w X → _) := fun X hX => iSusp_calls v H X (HRH.out X hX) hs h8 hcap hf hbf
  have hT8 := suspS_eight H hs h8 H.buffer.length
  have CWH : Hid (∀ X (q : TSh), RdT X q.v (suspT H) → _) := fun X q hq => iWhites_calls q.v (suspT H) X hq ⟨by have := hT8.1; unfold suspT; omega, by have := hT8.2; unfold suspT; omega⟩
  have HWS : Hid (Slots (whites (suspT H))) := whites_slots _ hT8
  have HFIN0 : Hid (settleH (wipeAt H (whites (suspT H)) (whites (suspT H)).length) = collH H) := wipe_settle H (suspT H) hT8 h8 rfl
  have HFR0 : Hid (freedAt H (whites (suspT H)) (whites (suspT H)).length = collF H) := by show _ = _; unfold freedAt collF; rw [List.take_length]
  have hwl : (whites (suspT H)).length ≤ 8 := by
    have : ∀ (zs : List Int) (i : Int), (whiteL zs i).length ≤ zs.length := by
      intro zs
      induction zs with
      | nil => intro i; simp [whiteL]
      | cons o r ih =>
        intro i
        unfold whiteL
        have := ih (i + 1)
        split <;> simp <;> omega
    have h1 := this (suspT H).colors 0
    have h2 : (suspT H).colors.length = 8 := hT8.2
    unfold whites
    omega
  have HSM : Hid (SmallH H) := hs
  have HL8 : Hid (H.objs.length = 8) := h8
  generalize whites (suspT H) = ws at *
  obtain ⟨L, hL⟩ : ∃ L, ws.length = L := ⟨_, rfl⟩
  have HL : Hid (ws.length = L) := hL
  obtain ⟨ao, co, aw, cw, ab, cb, sa, sc, rfl, -, -, -, -⟩ := h
  rw [h8] at HRH CC CS ⊢
  rw [hL] at hwl HFIN0 HFR0
  generalize H.weaks.length = nw at *
  generalize H.buffer.length = nb at *
  generalize H.sites.length = ns at *
  obtain ⟨W, hW⟩ : ∃ W, W = (w.alloc (.cells #[.slice ao 8 co, .slice aw nw cw, .slice ab nb cb, .slice sa ns sc] 29)).alloc (.cells #[.slice none 0 0, .slice none 0 0, .slice none 0 0, .slice none 0 0] 29) := ⟨_, rfl⟩
  have BW : Below w.heap.size w W := by rw [hW]; exact ((Below.refl _ _).alloc (Nat.le_refl _) _).alloc (by simp) _
  have sW : W.heap.size = w.heap.size + 2 := by rw [hW]; simp
  have FH : Four W w.heap.size (.slice ao 8 co) (.slice aw nw cw) (.slice ab nb cb) (.slice sa ns sc) := by
    have f := Four.new w (.slice ao 8 co) (.slice aw nw cw) (.slice ab nb cb) (.slice sa ns sc)
    have f2 := f.later ((Below.refl _ _).alloc (Nat.le_refl _) (.cells #[.slice none 0 0, .slice none 0 0, .slice none 0 0, .slice none 0 0] 29))
    rw [hW]; exact f2
  have FR : Four W (w.heap.size + 1) (.slice none 0 0) (.slice none 0 0) (.slice none 0 0) (.slice none 0 0) := by
    have f := Four.new (w.alloc (.cells #[.slice ao 8 co, .slice aw nw cw, .slice ab nb cb, .slice sa ns sc] 29)) (.slice none 0 0) (.slice none 0 0) (.slice none 0 0) (.slice none 0 0)
    rw [← hW] at f
    simpa using f
  have HFR : Hid (Four W (w.heap.size + 1) (.slice none 0 0) (.slice none 0 0) (.slice none 0 0) (.slice none 0 0)) := FR
  have HBW : Hid (Below w.heap.size w W) := BW
  have HsW : Hid (W.heap.size = w.heap.size + 2) := sW
  clear hs h8 hcap hf hbf hT8 hL FR
  go_enter Try.func21, Try.ntmps21
  go_wp2_with fail
  rw [← hW]
  clear hW
  refine (CC.out _ BW).mono ?_
  rintro e w1 ⟨s0, rfl, M1, b1⟩
  have hs1 := b1.size
  obtain ⟨V, hV⟩ : ∃ V, V = w1.alloc (.cells #[.slice s0.oa s0.os.length s0.oc, .slice s0.wa s0.wn s0.wc, .slice s0.ba s0.bn s0.bc, .slice s0.sa s0.sn s0.sc] 29) := ⟨_, rfl⟩
  have BV : Below w1.heap.size w1 V := by rw [hV]; exact (Below.refl _ _).alloc (Nat.le_refl _) _
  have bb : Below W.heap.size W V := b1.trans (BV.mono b1.size)
  have HLS0 : Hid (LS W V W.heap.size w1.heap.size s0 H (.slice none 0 0) (.slice none 0 0) [] []) :=
    ⟨bb, Nat.le_refl _, hm_later M1 BV, by rw [hV]; exact Four.new w1 _ _ _ _, hs1, fun hh => by have := (hm_bl M1 hh).2; omega, .inl ⟨rfl, rfl⟩, ownI_nil _ _, fun g hg => (by simp [Value.ownBlock] at hg), fun g hg => (by simp [Value.ownBlock] at hg), fun g hg => (by simp [Value.ownBlock] at hg)⟩
  have F1 := FH.later b1
  have c0 : w1.cell? ⟨w.heap.size, 0, none⟩ = some (.slice ao 8 co) := F1.cell 0
  have c1 : w1.cell? ⟨w.heap.size, 1, none⟩ = some (.slice aw nw cw) := F1.cell 1
  have c2 : w1.cell? ⟨w.heap.size, 2, none⟩ = some (.slice ab nb cb) := F1.cell 2
  have c3 : w1.cell? ⟨w.heap.size, 3, none⟩ = some (.slice sa ns sc) := F1.cell 3
  have hq0 : w.heap.size < w1.heap.size := by omega
  have hn0 : ¬ w.heap.size = w1.heap.size := by omega
  have HBV : Hid (Below w.heap.size w V) := HBW.out.trans (bb.mono HBW.out.size)
  rw [show s0.v = .agg #[.slice s0.oa s0.os.length s0.oc, .slice s0.wa s0.wn s0.wc, .slice s0.ba s0.bn s0.bc, .slice s0.sa s0.sn s0.sc] from rfl]
  clear M1 b1 BV bb F1 FH BW CC sW
  go_wp2_with fail
  rw [← hV]
  clear hV c0 c1 c2 c3 hq0 hn0
  refine (CS.out _ HBV.out).mono ?_
  rintro e w2 ⟨q, rfl, M2, b2⟩
  have HLS2 : Hid (LS W w2 W.heap.size w1.heap.size s0 H (.slice none 0 0) (.slice none 0 0) [] []) := ls_later HLS0.out b2
  have R2 := M2.rd
  have hvq : V.heap.size ≤ w2.heap.size := b2.size
  go_wp2_with fail
  refine (CWH.out _ q R2).mono ?_
  rintro e w3 ⟨vk, rfl, O3, b3⟩
  obtain ⟨ka, kc, hvk, -⟩ := rdI_own O3
  rw [HL.out] at hvk
  subst hvk
  have HLS3 : Hid (LS W w3 W.heap.size w1.heap.size s0 (wipeAt H ws 0) (.slice ka L kc) (.slice none 0 0) ws (freedAt H ws 0)) := by
    have l := ls_later HLS2.out b3
    rw [wipeAt_zero]
    have e0 : freedAt H ws 0 = [] := by simp [freedAt]
    rw [e0]
    exact ⟨l.bel, l.hB, l.m, l.x, l.gB, l.sx, ownQ_own (ownI_mono O3 HLS2.out.le), l.f, fun g hg hh => (by have h1 := (hm_bl HLS2.out.m hh).2; have h2 := (ownI_lt O3 g hg).1; omega), l.sf, fun g hg h2 => (by simp [Value.ownBlock] at h2)⟩
  obtain ⟨go, hgo, -, -⟩ := hm_own HLS3.out.m 0 (by rw [wipeAt_len, HL8.out]; omega)
  have HGO0 : Hid (s0.oa = some ⟨go, 0, none⟩) := hgo
  obtain ⟨gx, hgx⟩ : ∃ gx, w1.heap.size = gx := ⟨_, rfl⟩
  rw [hgx] at HLS3 ⊢
  clear hgo HLS0 HLS2 M2 b2 R2 O3 b3 CS CWH hgx hs1 hvq
  go_wp2
  go_loopw [5, 20] (fun vf i wr => ∃ (j : Nat) (s : HSh) (fa : Option Addr) (fc : Nat), i = .int .i64 (j : Int) ∧ j ≤ L ∧ vf = .slice fa j fc ∧ Hid (s.oa = some ⟨go, 0, none⟩) ∧ Hid (LS W wr W.heap.size gx s (wipeAt H ws j) (.slice ka L kc) vf ws (freedAt H ws j))) (fun _ i _ => L - (intOf i).toNat)
  case atStart => exact ⟨0, s0, none, 0, rfl, by omega, rfl, HGO0, HLS3⟩
  case round =>
    obtain ⟨j, s, fa, fc, rfl, hjL, rfl, HGO, HI⟩ := hrel
    by_cases hlt : j < L
    · have hj2 : j < ws.length := by have := HL.out; omega
      obtain ⟨ka2, kc2, hka, hr⟩ := ownQ_form HI.out.q
      rw [HL.out] at hka
      simp only [Value.slice.injEq] at hka
      obtain ⟨rfl, -, rfl⟩ := hka
      obtain ⟨kg, ko, rfl, hkg, hcz⟩ := hr j hj2
      obtain ⟨k, hk⟩ : ∃ k : Nat, ws[j] = (k : Int) := ⟨ws[j].toNat, by have := HWS.out _ (List.getElem_mem hj2); omega⟩
      have hk8 : k < 8 := by have := HWS.out _ (List.getElem_mem hj2); omega
      have hkH : k < H.objs.length := by have := HL8.out; omega
      have hkW : k < (wipeAt H ws j).objs.length := by rw [wipeAt_len]; exact hkH
      rw [hk] at hcz
      have HWK : Hid (wipeAt H ws (j + 1) = setO (wipeAt H ws j) k (emptyD H.objs[k].gen)) := wipeAt_step H ws j k hj2 hkH hk
      have HFK : Hid (freedAt H ws (j + 1) = freedAt H ws j ++ [idZ (k : Int) H.objs[k].gen]) := freedAt_step H ws j k hj2 hkH hk
      have HFL : Hid ((freedAt H ws j).length = j) := by show _ = _; unfold freedAt; rw [List.length_map, List.length_take]; omega
      have HGN : Hid (∀ X, HM X W.heap.size s (wipeAt H ws j) → X.cell? ⟨go, k * 8 + 1, none⟩ = some (.int .i64 H.objs[k].gen)) := fun X hX => by
        have e := (hm_obj hX k hkW go HGO.out).2.1.c1
        rw [wipeAt_gen H ws j k hkH] at e
        exact e
      have c1 := HGN.out wr HI.out.m
      have CE : Hid (∀ X, _) := fun X => emptyObj_calls H.objs[k].gen X
      have CID : Hid (∀ X, _) := fun X => iIdOf_calls (k : Int) H.objs[k].gen X
      have hsl : s.os.length = 8 := by rw [HI.out.m.lo, wipeAt_len, HL8.out]
      have x0 : wr.cell? ⟨gx, 0, none⟩ = some (.slice (some ⟨go, 0, none⟩) 8 s.oc) := by
        have e : wr.cell? ⟨gx, 0, none⟩ = some (.slice s.oa s.os.length s.oc) := HI.out.x.cell 0
        rw [HGO.out, hsl] at e
        exact e
      generalize H.objs[k].gen = og at *
      generalize idZ (k : Int) og = id at *
      have hk8i : (k : Int) < 8 := by omega
      have hjl : (j : Int) < (L : Int) := by omega
      obtain ⟨V4, hV4⟩ : ∃ V4, V4 = wr.alloc (.cells #[.int .i64 id] 3) := ⟨_, rfl⟩
      have b4 : Below wr.heap.size wr V4 := by rw [hV4]; exact (Below.refl _ _).alloc (Nat.le_refl _) _
      have HI4 : Hid (LS W V4 W.heap.size gx s (wipeAt H ws j) (.slice (some ⟨kg, ko, none⟩) L kc) (.slice fa j fc) ws (freedAt H ws j)) := ls_later HI.out b4
      have hVc : V4.cell? ⟨wr.heap.size, 0, none⟩ = some (.int .i64 id) := by rw [hV4, World.cell?_alloc_mark]; rfl
      have HW4 : Hid (W.heap.size ≤ V4.heap.size) := HI4.out.le
      clear hk hr b4 hsl
      go_wp2_with fail
      refine (CID.out _).mono ?_
      rintro e w3 ⟨rfl, hw3⟩
      subst hw3
      clear CID x0 c1 hcz
      go_wp2_with (at_builtin; rw [← hV4]; clear hV4; refine wpList_appendL rfl _ _ rfl W.heap.size _ _ rfl HI4.out.f ⟨w3.heap.size, 0, none⟩ id rfl hVc ?hlen HW4.out ?_)
      case hlen => rw [HFL.out]; omega
      intro v4 X4 O4 s4 H4 A4 B4
      obtain ⟨fa4, fc4, rfl, -⟩ := rdI_own O4
      have hfl : (freedAt H ws j ++ [id]).length = j + 1 := by rw [List.length_append, HFL.out]; rfl
      rw [hfl] at O4 A4 ⊢
      have HL4 : Hid (LS W X4 W.heap.size gx s (wipeAt H ws j) (.slice (some ⟨kg, ko, none⟩) L kc) (.slice fa4 (j + 1) fc4) ws (freedAt H ws (j + 1))) := by
        rw [HFK.out]
        refine ls_fr HI4.out (B4.out _ _ HI4.out.bel (Nat.le_refl _)) s4 H4.out _ _ O4 ?_
        rcases A4.out with e | e
        · exact .inl e
        · exact .inr ⟨_, e, Nat.le_refl _⟩
      have c1 := HGN.out X4 HL4.out.m
      clear O4 s4 H4 A4 B4 HI4 HI hVc
      go_wp2_with fail
      refine (CE.out _).mono ?_
      rintro e w7 ⟨f7, rfl, o7, b7⟩
      obtain ⟨a7, c7, hv7, -⟩ := rdI_own' o7
      rw [show ([-1, -1, -1] : List Int).length = 3 from rfl] at hv7
      subst hv7
      have HLE : Hid (LS W (setObj w7 go (k * 8) (emptyD og) (.slice a7 3 c7)) W.heap.size gx { s with os := s.os.set k ⟨a7, 3, c7⟩ } (wipeAt H ws (j + 1)) (.slice (some ⟨kg, ko, none⟩) L kc) (.slice fa4 (j + 1) fc4) ws (freedAt H ws (j + 1))) := by
        rw [HWK.out]
        exact ls_put HL4.out b7 k hkW go HGO.out (emptyD og) a7 c7 o7
      obtain ⟨_, ob7, fz7⟩ := hm_obj (hm_later HL4.out.m b7) k hkW go HGO.out
      obtain ⟨v0, e0⟩ := objAt_some ob7 0 (by omega)
      obtain ⟨v1, e1⟩ := objAt_some ob7 1 (by omega)
      obtain ⟨v2, e2⟩ := objAt_some ob7 2 (by omega)
      obtain ⟨v3, e3⟩ := objAt_some ob7 3 (by omega)
      obtain ⟨v4, e4⟩ := objAt_some ob7 4 (by omega)
      obtain ⟨v5, e5⟩ := objAt_some ob7 5 (by omega)
      obtain ⟨v6, e6⟩ := objAt_some ob7 6 (by omega)
      obtain ⟨v7, e7⟩ := objAt_some ob7 7 (by omega)
      have n0 := fz7 0 (by omega)
      have n1 := fz7 1 (by omega)
      have n2 := fz7 2 (by omega)
      have n3 := fz7 3 (by omega)
      have n4 := fz7 4 (by omega)
      have n5 := fz7 5 (by omega)
      have n6 := fz7 6 (by omega)
      have n7 := fz7 7 (by omega)
      rw [Nat.add_zero] at e0 n0
      have HGO2 : Hid (({ s with os := s.os.set k ⟨a7, 3, c7⟩ } : HSh).oa = some ⟨go, 0, none⟩) := HGO.out
      clear o7 b7 ob7 fz7 HL4 HWK HFK c1 CE HGN
      unfold objV
      go_wp2
      go_roundw
      case rel => exact ⟨j + 1, { s with os := s.os.set k ⟨a7, 3, c7⟩ }, fa4, fc4, by go_num, by omega, rfl, HGO2, HLE⟩
      case measure => simp [intOf]; omega
    · have HJ : Hid (j = L) := by show _ = _; omega
      have hwm : SmallH (wipeAt H ws j) := wipe_small HSM.out ws j
      have CSE : Hid (∀ _ : Unit, _) := fun (_ : Unit) => settle_calls W wr W.heap.size gx s (wipeAt H ws j) _ _ _ _ HI.out hwm (by rw [wipeAt_len, HL8.out])
      clear hwm HI
      go_wp2_with fail
      refine (CSE.out ()).mono ?_
      rintro e w4 ⟨rfl, s9, L9⟩
      have HL9 : Hid (LS W w4 W.heap.size gx s9 (collH H) (.slice ka L kc) (.slice fa j fc) ws (collF H)) := by
        have e1 : settleH (wipeAt H ws j) = collH H := by rw [HJ.out]; exact HFIN0.out
        have e2 : freedAt H ws j = collF H := by rw [HJ.out]; exact HFR0.out
        rw [e1, e2] at L9
        exact L9
      have e3 := HsW.out
      have XF := HL9.out.x
      have RF : Four w4 (w.heap.size + 1) (.slice none 0 0) (.slice none 0 0) (.slice none 0 0) (.slice none 0 0) := (HL9.out.bel.block (w.heap.size + 1) (by omega)).trans HFR.out
      have q0 := XF.cell 0
      have q1 := XF.cell 1
      have q2 := XF.cell 2
      have q3 := XF.cell 3
      have r0 := RF.cell 0
      have r1 := RF.cell 1
      have r2 := RF.cell 2
      have r3 := RF.cell 3
      have z0 := RF.frozen 0
      have z1 := RF.frozen 1
      have z2 := RF.frozen 2
      have z3 := RF.frozen 3
      simp only [List.getElem?_toArray, List.getElem?_cons_zero, List.getElem?_cons_succ] at q0 q1 q2 q3 r0 r1 r2 r3
      have HBl : Hid (Below w.heap.size w w4) := HBW.out.trans (HL9.out.bel.mono HBW.out.size)
      clear XF RF CSE L9 e3
      go_wp2
      have e3 := HsW.out
      refine bodyPost_ret (v := .tuple #[.agg #[.slice s9.oa s9.os.length s9.oc, .slice s9.wa s9.wn s9.wc, .slice s9.ba s9.bn s9.bc, .slice s9.sa s9.sn s9.sc], .slice fa j fc]) (by simp [results, Try.results21, go_sem, *]) rfl ⟨s9, .slice fa j fc, rfl, ?_, ?_, HL9.out.sf, ?_⟩
      · refine hm_mono (hm_keepB HL9.out.m ?_) (by omega)
        refine (((keepB_set _ _ ⟨w.heap.size + 1, 0, none⟩ _ (by simp only; omega)).trans (keepB_set _ _ ⟨w.heap.size + 1, 1, none⟩ _ (by simp only; omega))).trans (keepB_set _ _ ⟨w.heap.size + 1, 2, none⟩ _ (by simp only; omega))).trans (keepB_set _ _ ⟨w.heap.size + 1, 3, none⟩ _ (by simp only; omega))
      · exact ownI_mono (ownI_same (w' := setFour w4 (w.heap.size + 1) _ _ _ _) HL9.out.f (fun g hg => setFour_other _ _ _ _ _ _ g (by have := (ownI_lt HL9.out.f g hg).1; omega))) (by omega)
      · iterate 4 refine Below.setCell ?_ (by simp only; omega) _
        exact HBl.out
set_option maxHeartbeats 8000000 in
theorem iCollect_no (v : Value) (H : HeapD) (w : World) (h : RdH w v H) (hs : SmallH H) (h8 : H.objs.length ≠ 8) :
    Calls Try.prog 21 #[v] w fun e w' => ∃ (s : HSh) (vf : Value), e = .returned (.tuple #[s.v, vf]) ∧ HM w' w.heap.size s H ∧ ownI w' w.heap.size vf [] ∧ (∀ g, vf.ownBlock = some g → ¬ HasB s g) ∧ Below w.heap.size w w' := by
  have CC : Hid (∀ X, Below w.heap.size w X → _) := fun X hX => iCopy_calls v H X (rdH_later h hX) hs
  have hol := hs.objs
  obtain ⟨ao, co, aw, cw, ab, cb, sa, sc, rfl, -, -, -, -⟩ := h
  obtain ⟨no, hno⟩ : ∃ no, H.objs.length = no := ⟨_, rfl⟩
  rw [hno] at CC h8 hol ⊢
  have hne : ¬ (no : Int) = 8 := by omega
  generalize H.weaks.length = nw at *
  generalize H.buffer.length = nb at *
  generalize H.sites.length = ns at *
  obtain ⟨W, hW⟩ : ∃ W, W = (w.alloc (.cells #[.slice ao no co, .slice aw nw cw, .slice ab nb cb, .slice sa ns sc] 29)).alloc (.cells #[.slice none 0 0, .slice none 0 0, .slice none 0 0, .slice none 0 0] 29) := ⟨_, rfl⟩
  have BW : Below w.heap.size w W := by rw [hW]; exact ((Below.refl _ _).alloc (Nat.le_refl _) _).alloc (by simp) _
  have sW : W.heap.size = w.heap.size + 2 := by rw [hW]; simp
  have FH : Four W w.heap.size (.slice ao no co) (.slice aw nw cw) (.slice ab nb cb) (.slice sa ns sc) := by
    have f := Four.new w (.slice ao no co) (.slice aw nw cw) (.slice ab nb cb) (.slice sa ns sc)
    have f2 := f.later ((Below.refl _ _).alloc (Nat.le_refl _) (.cells #[.slice none 0 0, .slice none 0 0, .slice none 0 0, .slice none 0 0] 29))
    rw [hW]; exact f2
  have FR : Four W (w.heap.size + 1) (.slice none 0 0) (.slice none 0 0) (.slice none 0 0) (.slice none 0 0) := by
    have f := Four.new (w.alloc (.cells #[.slice ao no co, .slice aw nw cw, .slice ab nb cb, .slice sa ns sc] 29)) (.slice none 0 0) (.slice none 0 0) (.slice none 0 0) (.slice none 0 0)
    rw [← hW] at f
    simpa using f
  have HBW : Hid (Below w.heap.size w W) := BW
  have HsW : Hid (W.heap.size = w.heap.size + 2) := sW
  clear hs hno h8
  go_enter Try.func21, Try.ntmps21
  go_wp2_with fail
  rw [← hW]
  clear hW
  refine (CC.out _ BW).mono ?_
  rintro e w1 ⟨s0, rfl, M1, b1⟩
  have hs1 := b1.size
  have F1 := FH.later b1
  have c0 : w1.cell? ⟨w.heap.size, 0, none⟩ = some (.slice ao no co) := F1.cell 0
  have RF := FR.later b1
  have r0 := RF.cell 0
  have r1 := RF.cell 1
  have r2 := RF.cell 2
  have r3 := RF.cell 3
  have z0 := RF.frozen 0
  have z1 := RF.frozen 1
  have z2 := RF.frozen 2
  have z3 := RF.frozen 3
  simp only [List.getElem?_toArray, List.getElem?_cons_zero, List.getElem?_cons_succ] at r0 r1 r2 r3
  have hq0 : w.heap.size < w1.heap.size := by omega
  have hn0 : ¬ w.heap.size = w1.heap.size := by omega
  have hq1 : w.heap.size + 1 < w1.heap.size := by omega
  have hn1 : ¬ w.heap.size + 1 = w1.heap.size := by omega
  have HM1 : Hid (HM w1 W.heap.size s0 H) := M1
  have HBl : Hid (Below w.heap.size w w1) := HBW.out.trans (b1.mono HBW.out.size)
  rw [show s0.v = .agg #[.slice s0.oa s0.os.length s0.oc, .slice s0.wa s0.wn s0.wc, .slice s0.ba s0.bn s0.bc, .slice s0.sa s0.sn s0.sc] from rfl]
  clear M1 b1 F1 FH FR RF BW CC sW
  go_wp2
  have e3 := HsW.out
  refine bodyPost_ret (v := .tuple #[.agg #[.slice s0.oa s0.os.length s0.oc, .slice s0.wa s0.wn s0.wc, .slice s0.ba s0.bn s0.bc, .slice s0.sa s0.sn s0.sc], .slice none 0 0]) (by simp [results, Try.results21, go_sem, *]) rfl ⟨s0, .slice none 0 0, rfl, ?_, ownI_nil _ _, fun g hg => (by simp [Value.ownBlock] at hg), ?_⟩
  · refine hm_mono (hm_later (hm_keepB HM1.out ?_) ((Below.refl _ _).alloc (Nat.le_refl _) _)) (by omega)
    exact (((keepB_set _ _ ⟨w.heap.size + 1, 0, none⟩ _ (by simp only; omega)).trans (keepB_set _ _ ⟨w.heap.size + 1, 1, none⟩ _ (by simp only; omega))).trans (keepB_set _ _ ⟨w.heap.size + 1, 2, none⟩ _ (by simp only; omega))).trans (keepB_set _ _ ⟨w.heap.size + 1, 3, none⟩ _ (by simp only; omega))
  · have b4 : Below w.heap.size w (setFour w1 (w.heap.size + 1) (.slice s0.oa s0.os.length s0.oc) (.slice s0.wa s0.wn s0.wc) (.slice s0.ba s0.bn s0.bc) (.slice s0.sa s0.sn s0.sc)) := by
      unfold setFour
      iterate 4 refine Below.setCell ?_ (by simp only; omega) _
      exact HBl.out
    exact b4.alloc b4.size _
end Go.Proofs.Ytnjplfofcjonhaa

namespace Go.Proofs.Ytnjplfofcjonhaa
def lenV : Value → Nat
  | .slice _ n _ => n
  | _ => 0
end Go.Proofs.Ytnjplfofcjonhaa

namespace Go.Proofs.Ytnjplfofcjonhaa
open Go.RowKit
set_option linter.unusedVariables false
set_option maxRecDepth 100000
structure BI (W wr : World) (B ga gb c d : Nat) (T : TrialD) (vq : Value) (todo : List Int) : Prop where
  bel : Below B W wr
  oth : ∀ g, g < W.heap.size → g ≠ ga → g ≠ gb → wr.heap[g]? = W.heap[g]?
  x : ownI wr B (.slice (some ⟨ga, 0, none⟩) 8 c) T.counts
  y : ownI wr B (.slice (some ⟨gb, 0, none⟩) 8 d) T.colors
  ne : ga ≠ gb
  la : ga < W.heap.size
  lb : gb < W.heap.size
  hB : B ≤ W.heap.size
  q : ownI wr W.heap.size vq todo
theorem BI.eight {W wr : World} {B ga gb c d : Nat} {T : TrialD} {vq : Value} {todo : List Int} (h : BI W wr B ga gb c d T vq todo) : Eight T := ⟨(own_len h.x).symm, (own_len h.y).symm⟩
theorem bi_later {W wr X : World} {B ga gb c d : Nat} {T : TrialD} {vq : Value} {todo : List Int} (h : BI W wr B ga gb c d T vq todo) (hb : Below wr.heap.size wr X) : BI W X B ga gb c d T vq todo :=
  have hs := h.bel.size
  ⟨h.bel.trans (hb.mono (Nat.le_trans h.hB hs)), fun g h1 h2 h3 => (hb.block g (by omega)).trans (h.oth g h1 h2 h3), ownI_later h.x hb, ownI_later h.y hb, h.ne, h.la, h.lb, h.hB, ownI_later h.q hb⟩
theorem bi_count {W wr : World} {B ga gb c d : Nat} {T : TrialD} {vq : Value} {todo : List Int} (h : BI W wr B ga gb c d T vq todo) (i : Nat) (z : Int) : BI W (wr.setCell ⟨ga, i, none⟩ (.int .i64 z)) B ga gb c d ⟨T.counts.set i z, T.colors⟩ vq todo := by
  have oth : ∀ g, g ≠ ga → (wr.setCell ⟨ga, i, none⟩ (.int .i64 z)).heap[g]? = wr.heap[g]? := fun g hg => heap_setCell_other _ _ _ _ (by exact hg)
  have hga := (ownI_lt h.x ga rfl).1
  refine ⟨h.bel.setCell hga _, fun g h1 h2 h3 => (oth g h2).trans (h.oth g h1 h2 h3), ownI_set h.x (own_len h.x) i z, ownI_same h.y (fun g hg => oth g (fun e => ?_)), h.ne, h.la, h.lb, h.hB, ownI_same h.q (fun g hg => oth g (fun e => ?_))⟩
  · have : gb = g := by simpa [Value.ownBlock] using hg
    exact h.ne (by omega)
  · have := (ownI_lt h.q g hg).1
    have := h.la
    omega
theorem bi_color {W wr : World} {B ga gb c d : Nat} {T : TrialD} {vq : Value} {todo : List Int} (h : BI W wr B ga gb c d T vq todo) (i : Nat) (z : Int) : BI W (wr.setCell ⟨gb, i, none⟩ (.int .i64 z)) B ga gb c d ⟨T.counts, T.colors.set i z⟩ vq todo := by
  have oth : ∀ g, g ≠ gb → (wr.setCell ⟨gb, i, none⟩ (.int .i64 z)).heap[g]? = wr.heap[g]? := fun g hg => heap_setCell_other _ _ _ _ (by exact hg)
  have hgb := (ownI_lt h.y gb rfl).1
  refine ⟨h.bel.setCell hgb _, fun g h1 h2 h3 => (oth g h3).trans (h.oth g h1 h2 h3), ownI_same h.x (fun g hg => oth g (fun e => ?_)), ownI_set h.y (own_len h.y) i z, h.ne, h.la, h.lb, h.hB, ownI_same h.q (fun g hg => oth g (fun e => ?_))⟩
  · have : ga = g := by simpa [Value.ownBlock] using hg
    exact h.ne (by omega)
  · have := (ownI_lt h.q g hg).1
    have := h.lb
    omega
theorem ownI_cut {w : World} {B n c : Nat} {a : Option Addr} {zs : List Int} {z : Int} (h : ownI w B (.slice a (n + 1) c) (zs ++ [z])) : ownI w B (.slice a n c) zs := by
  have hl := own_len h
  rw [List.length_append, List.length_singleton] at hl
  obtain rfl : n = zs.length := by omega
  rcases h with ⟨h1, ⟨h2, h3⟩ | ⟨g, cap, cur, h2, h3, h4, h5, h6, h7, h8⟩⟩
  · simp at h3
  · injection h2 with e1 e2 e3
    subst e1 e3
    rw [List.length_append, List.length_singleton] at h5 h8
    refine ⟨by simp, .inr ⟨g, c, cur, rfl, h3, h4, by omega, h6, h7, ?_⟩⟩
    have h9 := congrArg (List.take zs.length) h8
    rw [List.take_take, Nat.mul_one, Nat.min_eq_left (by omega), List.map_append] at h9
    rw [Nat.mul_one, h9]
    have e : (zs.map intV).length = zs.length := List.length_map ..
    rw [← e]
    exact List.take_left
theorem bi_pop {W wr : World} {B ga gb c d : Nat} {T : TrialD} {n qc : Nat} {qa : Option Addr} {rest : List Int} {k : Int} (h : BI W wr B ga gb c d T (.slice qa (n + 1) qc) (rest ++ [k])) : BI W wr B ga gb c d T (.slice qa n qc) rest :=
  ⟨h.bel, h.oth, h.x, h.y, h.ne, h.la, h.lb, h.hB, ownI_cut h.q⟩
theorem bi_push {W wr X : World} {B ga gb c d : Nat} {T : TrialD} {vq vq' : Value} {todo todo' : List Int} (h : BI W wr B ga gb c d T vq todo) (oth : ∀ i, i < wr.heap.size → vq.ownBlock ≠ some i → X.heap[i]? = wr.heap[i]?) (hbel : ∀ C w0, Below C w0 wr → C ≤ W.heap.size → Below C w0 X) (hq : ownI X W.heap.size vq' todo') : BI W X B ga gb c d T vq' todo' := by
  have hs := h.bel.size
  have far : ∀ g, g < W.heap.size → X.heap[g]? = wr.heap[g]? := fun g hg => oth g (by omega) (fun e => by have := (ownI_lt h.q g e).1; omega)
  refine ⟨hbel B W h.bel h.hB, fun g h1 h2 h3 => (far g h1).trans (h.oth g h1 h2 h3), ownI_same h.x (fun g hg => far g ?_), ownI_same h.y (fun g hg => far g ?_), h.ne, h.la, h.lb, h.hB, hq⟩
  · have : ga = g := by simpa [Value.ownBlock] using hg
    have := h.la
    omega
  · have : gb = g := by simpa [Value.ownBlock] using hg
    have := h.lb
    omega
theorem bi_cells {W wr : World} {B ga gb c d : Nat} {T : TrialD} {vq : Value} {todo : List Int} (h : BI W wr B ga gb c d T vq todo) (i : Nat) (hi : i < 8) :
    wr.cell? ⟨ga, i, none⟩ = some (.int .i64 (T.counts.getD i 0)) ∧ wr.frozen? ⟨ga, i, none⟩ = false ∧ wr.cell? ⟨gb, i, none⟩ = some (.int .i64 (T.colors.getD i 0)) ∧ wr.frozen? ⟨gb, i, none⟩ = false := by
  obtain ⟨l1, l2⟩ := h.eight
  have key : ∀ {g n c : Nat} {zs : List Int}, ownI wr B (.slice (some ⟨g, 0, none⟩) n c) zs → i < zs.length → wr.cell? ⟨g, i, none⟩ = some (.int .i64 (zs.getD i 0)) ∧ wr.frozen? ⟨g, i, none⟩ = false := by
    intro g n c zs ho hl
    rcases ownI_form ho with ⟨h1, _⟩ | ⟨g2, cap, h1, _, _, _, _, HC⟩
    · cases h1
    · injection h1 with e1
      injection e1 with e1
      injection e1 with e1
      subst e1
      have := HC.out i hl
      rw [List.getD_eq_getElem?_getD, List.getElem?_eq_getElem hl, Option.getD_some]
      exact this
  obtain ⟨a1, a2⟩ := key h.x (by omega)
  obtain ⟨b1, b2⟩ := key h.y (by omega)
  exact ⟨a1, a2, b1, b2⟩
def othersAt (X : World) (gb : Nat) (c : Int) : Nat := ((List.range 8).filter fun i => match X.cell? ⟨gb, i, none⟩ with | some (.int _ q) => !decide (q = c) | _ => false).length
theorem othersAt_is {W wr : World} {B ga gb cc d : Nat} {T : TrialD} {vq : Value} {todo : List Int} (h : BI W wr B ga gb cc d T vq todo) (c : Int) : othersAt wr gb c = others c T.colors := by
  obtain ⟨l1, l2⟩ := h.eight
  unfold othersAt others
  have h1 : ((List.range 8).filter fun i => match wr.cell? ⟨gb, i, none⟩ with | some (.int _ q) => !decide (q = c) | _ => false) = (List.range 8).filter fun i => !decide (T.colors.getD i 0 = c) := by
    refine List.filter_congr (fun i hi => ?_)
    rw [(bi_cells h i (List.mem_range.1 hi)).2.2.1]
  rw [h1]
  obtain ⟨ys, hys⟩ : ∃ ys, T.colors = ys := ⟨_, rfl⟩
  rw [hys] at l2 ⊢
  match ys, l2 with
  | [a0, a1, a2, a3, a4, a5, a6, a7], _ =>
    simp only [List.range, List.range.loop, List.countP_eq_length_filter]
    by_cases e0 : a0 = c <;> by_cases e1 : a1 = c <;> by_cases e2 : a2 = c <;> by_cases e3 : a3 = c <;> by_cases e4 : a4 = c <;> by_cases e5 : a5 = c <;> by_cases e6 : a6 = c <;> by_cases e7 : a7 = c <;> simp [List.filter, List.getD, e0, e1, e2, e3, e4, e5, e6, e7]
end Go.Proofs.Ytnjplfofcjonhaa

namespace Go.Proofs.Ytnjplfofcjonhaa
open Go.RowKit
set_option linter.unusedVariables false
set_option maxRecDepth 100000
set_option maxHeartbeats 4000000 in
theorem sGray_no (v u : Value) (H : HeapD) (T : TrialD) (slot : Int) (w : World) (h : RdH w v H) (ht : RdT w u T) (hs : SmallH H) (hst : SmallT T) (hno : ¬ OkT H T slot ∨ T.colors.getD slot.toNat 0 = 1) :
    Calls Try.prog 61 #[v, u, .int .i64 slot] w fun e w' => ∃ s : TSh, e = .returned s.v ∧ TM w' w.heap.size s T ∧ Below w.heap.size w w' := by
  have HRH : Hid (∀ X, Below w.heap.size w X → RdH X v H) := fun X hX => rdH_later h hX
  have HRT : Hid (∀ X, Below w.heap.size w X → RdT X u T) := fun X hX => rdT_later ht hX
  obtain ⟨ao, co, aw, cw, ab, cb, sa, sc, rfl, -⟩ := h
  obtain ⟨xa, xc, ya, yc, rfl, -, ri⟩ := ht
  obtain ⟨W, hW⟩ : ∃ W, W = ((w.alloc (.cells #[.slice ao H.objs.length co, .slice aw H.weaks.length cw, .slice ab H.buffer.length cb, .slice sa H.sites.length sc] 29)).alloc (.cells #[.slice xa T.counts.length xc, .slice ya T.colors.length yc] 77)).alloc (.cells #[.slice none 0 0, .slice none 0 0] 77) := ⟨_, rfl⟩
  have BW : Below w.heap.size w W := by rw [hW]; exact (((Below.refl _ _).alloc (Nat.le_refl _) _).alloc (by simp) _).alloc (by simp; omega) _
  have hWs : W.heap.size = w.heap.size + 3 := by rw [hW]; simp
  have q0 : Four W w.heap.size (.slice ao H.objs.length co) (.slice aw H.weaks.length cw) (.slice ab H.buffer.length cb) (.slice sa H.sites.length sc) := by
    have f1 := Four.new w (.slice ao H.objs.length co) (.slice aw H.weaks.length cw) (.slice ab H.buffer.length cb) (.slice sa H.sites.length sc)
    exact Eq.trans (by rw [hW, Below.heap_alloc _ _ _ (by simp; omega), Below.heap_alloc _ _ _ (by simp)]) f1
  have q1 : Two W (w.heap.size + 1) (.slice xa T.counts.length xc) (.slice ya T.colors.length yc) := by
    have f1 := Two.new (w.alloc (.cells #[.slice ao H.objs.length co, .slice aw H.weaks.length cw, .slice ab H.buffer.length cb, .slice sa H.sites.length sc] 29)) (.slice xa T.counts.length xc) (.slice ya T.colors.length yc)
    rw [show (w.alloc (.cells #[.slice ao H.objs.length co, .slice aw H.weaks.length cw, .slice ab H.buffer.length cb, .slice sa H.sites.length sc] 29)).heap.size = w.heap.size + 1 from by simp] at f1
    exact Eq.trans (by rw [hW, Below.heap_alloc _ _ _ (by simp)]) f1
  have q2 : Two W (w.heap.size + 2) (.slice none 0 0) (.slice none 0 0) := by
    have f1 := Two.new ((w.alloc (.cells #[.slice ao H.objs.length co, .slice aw H.weaks.length cw, .slice ab H.buffer.length cb, .slice sa H.sites.length sc] 29)).alloc (.cells #[.slice xa T.counts.length xc, .slice ya T.colors.length yc] 77)) (.slice none 0 0) (.slice none 0 0)
    rw [show ((w.alloc (.cells #[.slice ao H.objs.length co, .slice aw H.weaks.length cw, .slice ab H.buffer.length cb, .slice sa H.sites.length sc] 29)).alloc (.cells #[.slice xa T.counts.length xc, .slice ya T.colors.length yc] 77)).heap.size = w.heap.size + 2 from by simp] at f1
    rw [hW]
    exact f1
  have HQ : Hid (∀ X, Below W.heap.size W X → Four X w.heap.size (.slice ao H.objs.length co) (.slice aw H.weaks.length cw) (.slice ab H.buffer.length cb) (.slice sa H.sites.length sc) ∧ Two X (w.heap.size + 1) (.slice xa T.counts.length xc) (.slice ya T.colors.length yc) ∧ Two X (w.heap.size + 2) (.slice none 0 0) (.slice none 0 0)) :=
    fun X hX => ⟨q0.same (hX.block _ (by omega)), q1.same (hX.block _ (by omega)), q2.same (hX.block _ (by omega))⟩
  have HBW : Hid (Below w.heap.size w W) := BW
  have HWs : Hid (W.heap.size = w.heap.size + 3) := hWs
  have CC : Hid (∀ _ : Unit, _) := fun (_ : Unit) => sCopyT_calls _ T W (HRT.out W BW) hst
  obtain ⟨b, hb⟩ : ∃ b : Bool, b = true ↔ OkT H T slot := by
    by_cases h : OkT H T slot
    · exact ⟨true, by simp [h]⟩
    · exact ⟨false, by simp [h]⟩
  have CO : Hid (∀ X, Below w.heap.size w X → _) := fun X hX => sOkT_calls _ _ H T slot X (HRH.out X hX) (HRT.out X hX) hs hst b hb
  have HRI : Hid (∀ X, Below w.heap.size w X → RdI X ya T.colors) := fun X hX => rdI_later ri hX
  have HBO : Hid (b = true ↔ OkT H T slot) := hb
  have HNO : Hid (¬ OkT H T slot ∨ T.colors.getD slot.toNat 0 = 1) := hno
  have hlc := hst.colors
  clear q0 q1 q2 BW hWs HRH HRT hs hst hno ri hb
  go_enter Try.func61, Try.ntmps61
  go_wp2_with fail
  rw [← hW]
  clear hW
  refine (CC.out ()).mono ?_
  rintro e w1 ⟨s, rfl, M1, b1⟩
  obtain ⟨V, hV⟩ : ∃ V, V = w1.alloc (.cells #[.slice s.a s.n s.c, .slice s.b s.m s.d] 77) := ⟨_, rfl⟩
  have BV : Below w1.heap.size w1 V := by rw [hV]; exact (Below.refl _ _).alloc (Nat.le_refl _) _
  have HTV : Hid (TM V W.heap.size s T) := M1.later BV
  have HXV : Hid (Two V w1.heap.size (.slice s.a s.n s.c) (.slice s.b s.m s.d)) := by rw [hV]; exact Two.new w1 _ _
  have HBV : Hid (Below W.heap.size W V) := b1.trans (BV.mono b1.size)
  have HW1 : Hid (W.heap.size ≤ w1.heap.size) := b1.size
  have HVV : Hid (Below w.heap.size w V) := HBW.out.trans (HBV.out.mono HBW.out.size)
  obtain ⟨F1, X1, X2⟩ := HQ.out w1 b1
  have f0 : w1.cell? ⟨w.heap.size, 0, none⟩ = some (.slice ao H.objs.length co) := F1.cell 0
  have f1 : w1.cell? ⟨w.heap.size, 1, none⟩ = some (.slice aw H.weaks.length cw) := F1.cell 1
  have f2 : w1.cell? ⟨w.heap.size, 2, none⟩ = some (.slice ab H.buffer.length cb) := F1.cell 2
  have f3 : w1.cell? ⟨w.heap.size, 3, none⟩ = some (.slice sa H.sites.length sc) := F1.cell 3
  have t0 : w1.cell? ⟨w.heap.size + 1, 0, none⟩ = some (.slice xa T.counts.length xc) := X1.cell 0
  have t1 : w1.cell? ⟨w.heap.size + 1, 1, none⟩ = some (.slice ya T.colors.length yc) := X1.cell 1
  have g0 : w.heap.size < w1.heap.size := F1.lt
  have g1 : w.heap.size + 1 < w1.heap.size := X1.lt
  have n0 : ¬ w.heap.size = w1.heap.size := by omega
  have n1 : ¬ w.heap.size + 1 = w1.heap.size := by omega
  have HC2 : Hid (Calls _ _ _ V _) := CO.out V HVV.out
  rw [show s.v = .agg #[.slice s.a s.n s.c, .slice s.b s.m s.d] from rfl]
  clear CC CO M1 b1 BV F1 X1 X2
  go_wp2_with fail
  rw [← hV]
  clear hV
  refine HC2.out.mono ?_
  rintro e w2 ⟨rfl, b2⟩
  have HB2 : Hid (Below W.heap.size W w2) := HBV.out.trans (b2.mono HBV.out.size)
  have HT2 : Hid (TM w2 W.heap.size s T) := HTV.out.later b2
  have X2 : Two w2 w1.heap.size (.slice s.a s.n s.c) (.slice s.b s.m s.d) := HXV.out.later b2 HXV.out.lt
  obtain ⟨-, T1, R1⟩ := HQ.out w2 HB2.out
  have x0 : w2.cell? ⟨w1.heap.size, 0, none⟩ = some (.slice s.a s.n s.c) := X2.cell 0
  have x1 : w2.cell? ⟨w1.heap.size, 1, none⟩ = some (.slice s.b s.m s.d) := X2.cell 1
  have u1 : w2.cell? ⟨w.heap.size + 1, 1, none⟩ = some (.slice ya T.colors.length yc) := T1.cell 1
  have r0 : w2.cell? ⟨w.heap.size + 2, 0, none⟩ = some (.slice none 0 0) := R1.cell 0
  have r1 : w2.cell? ⟨w.heap.size + 2, 1, none⟩ = some (.slice none 0 0) := R1.cell 1
  have z0 := R1.frozen 0
  have z1 := R1.frozen 1
  have HFIN : Hid (TM (setTwo w2 (w.heap.size + 2) (.slice s.a s.n s.c) (.slice s.b s.m s.d)) w.heap.size s T ∧ Below w.heap.size w (setTwo w2 (w.heap.size + 2) (.slice s.a s.n s.c) (.slice s.b s.m s.d))) := by
    have e3 := HWs.out
    refine ⟨(HT2.out.same (fun g h1 h2 => setTwo_other _ _ _ _ g (by omega))).mono (by omega), ?_⟩
    unfold setTwo
    exact ((HBW.out.trans (HB2.out.mono (by omega))).setCell (by simp) _).setCell (by simp) _
  clear f0 f1 f2 f3 t0 t1 g0 g1 n0 n1 T1 R1 X2 b2
  cases b with
  | false =>
    go_wp2
    exact bodyPost_ret (v := .agg #[.slice s.a s.n s.c, .slice s.b s.m s.d]) (by simp [results, Try.results61, go_sem, *]) rfl ⟨s, rfl, HFIN.out⟩
  | true =>
    have ok := HBO.out.1 rfl
    have hlo := ok.lo
    have hhi := ok.hi
    have h8 := ok.colors
    obtain ⟨k, rfl⟩ : ∃ k : Nat, slot = (k : Int) := ⟨slot.toNat, by omega⟩
    have hk : k < T.colors.length := by omega
    have hg : T.colors[k] = 1 := by
      rcases HNO.out with h | h
      · exact absurd ok h
      · rw [show ((k : Int)).toNat = k from by omega, List.getD_eq_getElem?_getD, List.getElem?_eq_getElem hk, Option.getD_some] at h
        exact h
    obtain ⟨g, off, rfl, -, hc⟩ := HRI.out w2 (HBW.out.trans (HB2.out.mono HBW.out.size)) k hk
    rw [hg] at hc
    clear hg ok h8 hlo hhi
    go_wp2
    exact bodyPost_ret (v := .agg #[.slice s.a s.n s.c, .slice s.b s.m s.d]) (by simp [results, Try.results61, go_sem, *]) rfl ⟨s, rfl, HFIN.out⟩
end Go.Proofs.Ytnjplfofcjonhaa

namespace Go.Proofs.Ytnjplfofcjonhaa
open Go.RowKit
set_option linter.unusedVariables false
set_option maxRecDepth 100000
theorem opIndexI {t i j : Tmp} {ty : TypeId} {pos : String} {af : Array Edge} {a : Act} {X : World} {K : Act → World → Prop} {Q : Exit → Act → World → Prop} {g n c k : Nat} (h1 : a.eval (.tmp i) = .slice (some ⟨g, 0, none⟩) n c) (h2 : a.eval (.tmp j) = .int .i64 (k : Int)) (hk : k < n) (hK : K (a.put (some t) (.pointer (some ⟨g, k, none⟩))) X) :
    Oper.wp Try.prog ⟨some t, .indexAddr 26 (.tmp i) (.tmp j), ty, pos, af, none⟩ a X K Q := by
  have e1 := ev_tmp h1
  have e2 := ev_tmp h2
  have k1 : (0 : Int) ≤ (k : Int) := by omega
  have k2 : (k : Int) < (n : Int) := by omega
  go_simp; exact hK
theorem opAdd1 {t i : Tmp} {ty : TypeId} {pos : String} {af : Array Edge} {a : Act} {X : World} {K : Act → World → Prop} {Q : Exit → Act → World → Prop} {z : Int} (h1 : a.eval (.tmp i) = .int .i64 z) (hK : K (a.put (some t) (.int .i64 (wrap64 (z + 1)))) X) :
    Oper.wp Try.prog ⟨some t, .binOp .add 3 (.tmp i) (.const (.int .i64 1)) 3, ty, pos, af, none⟩ a X K Q := by
  have h := ev_tmp h1
  have e : IntKind.i64.wrap (z + 1) = wrap64 (z + 1) := by rw [IntKind.wrap_i64]; simp only [wrap64]
  go_simp; exact hK
theorem opStoreC {i : Tmp} {ty : TypeId} {pos : String} {af : Array Edge} {a : Act} {X : World} {K : Act → World → Prop} {Q : Exit → Act → World → Prop} {g p : Nat} {u : Value} {z : Int} (h1 : a.eval (.tmp i) = .pointer (some ⟨g, p, none⟩)) (hc : X.cell? ⟨g, p, none⟩ = some u) (hf : X.frozen? ⟨g, p, none⟩ = false) (hK : K a (X.setCell ⟨g, p, none⟩ (.int .i64 z))) :
    Oper.wp Try.prog ⟨none, .store 3 (.tmp i) (.const (.int .i64 z)), ty, pos, af, none⟩ a X K Q := by
  have e1 := ev_tmp h1
  go_simp; exact hK
def RB (gx ga c gk n kc j s : Nat) (z z' : Int) : Nat → Value → Prop
  | 0, v => v = .pointer (some ⟨gx, 0, none⟩)
  | 1, v => v = .slice (some ⟨ga, 0, none⟩) 8 c
  | 2, v => v = .slice (some ⟨gk, 0, none⟩) n kc
  | 3, v => v = .int .i64 (j : Int)
  | 4, v => v = .pointer (some ⟨gk, j, none⟩)
  | 5, v => v = .int .i64 (s : Int)
  | 6, v => v = .pointer (some ⟨gx, 0, none⟩)
  | 7, v => v = .slice (some ⟨ga, 0, none⟩) 8 c
  | 8, v => v = .slice (some ⟨gk, 0, none⟩) n kc
  | 9, v => v = .int .i64 (j : Int)
  | 10, v => v = .pointer (some ⟨gk, j, none⟩)
  | 11, v => v = .int .i64 (s : Int)
  | 12, v => v = .pointer (some ⟨ga, s, none⟩)
  | 13, v => v = .int .i64 z
  | 14, v => v = .int .i64 z'
  | 15, v => v = .pointer (some ⟨ga, s, none⟩)
  | _, _ => True
def RCo (gx gb d gk n kc j s : Nat) : Nat → Value → Prop
  | 0, v => v = .pointer (some ⟨gx, 1, none⟩)
  | 1, v => v = .slice (some ⟨gb, 0, none⟩) 8 d
  | 2, v => v = .slice (some ⟨gk, 0, none⟩) n kc
  | 3, v => v = .int .i64 (j : Int)
  | 4, v => v = .pointer (some ⟨gk, j, none⟩)
  | 5, v => v = .int .i64 (s : Int)
  | 6, v => v = .pointer (some ⟨gb, s, none⟩)
  | _, _ => True
theorem ownI_one (X : World) (B : Nat) (k : Int) (h : B ≤ X.heap.size) : ownI (X.alloc (.cells #[.int .i64 k] 3)) B (.slice (some ⟨X.heap.size, 0, none⟩) 1 1) [k] :=
  ⟨by simp, .inr ⟨X.heap.size, 1, #[.int .i64 k], rfl, h, heap_alloc_new X _, Nat.le_refl _, by unfold maxLen; omega, rfl, rfl⟩⟩
set_option maxHeartbeats 8000000 in
theorem sBlack_calls (v : Value) (H : HeapD) (T : TrialD) (ga gb c d k B : Nat) (w : World) (hR : ∀ X, Below B w X → RdH X v H) (hs : SmallH H) (h8 : H.objs.length = 8) (hf : ∀ o ∈ H.objs, ∀ z ∈ o.field, in64 z)
    (hx : ownI w B (.slice (some ⟨ga, 0, none⟩) 8 c) T.counts) (hy : ownI w B (.slice (some ⟨gb, 0, none⟩) 8 d) T.colors) (hne : ga ≠ gb) (hB : B ≤ w.heap.size) (hk : k < 8) :
    Calls Try.prog 95 #[v, .agg #[.slice (some ⟨ga, 0, none⟩) 8 c, .slice (some ⟨gb, 0, none⟩) 8 d], .int .i64 (k : Int)] w fun e w' => e = .returned (.agg #[.slice (some ⟨ga, 0, none⟩) 8 c, .slice (some ⟨gb, 0, none⟩) 8 d]) ∧ ownI w' B (.slice (some ⟨ga, 0, none⟩) 8 c) (blackT H T (k : Int)).counts ∧ ownI w' B (.slice (some ⟨gb, 0, none⟩) 8 d) (blackT H T (k : Int)).colors ∧ Below B w w' ∧ ∀ g, g < w.heap.size → g ≠ ga → g ≠ gb → w'.heap[g]? = w.heap[g]? := by
  have la := (ownI_lt hx ga rfl).2
  have lb := (ownI_lt hy gb rfl).2
  have B0 : BI w w B ga gb c d T (.slice none 0 0) [] := ⟨Below.refl _ _, fun _ _ _ _ => rfl, hx, hy, hne, la, lb, hB, ownI_nil _ _⟩
  obtain ⟨-, -, cb0, fb0⟩ := bi_cells B0 k hk
  obtain ⟨ao, co, aw, cw, ab, cb, sa, sc, rfl, -⟩ := hR w (Below.refl _ _)
  have HS : Hid (SmallH H) := hs
  have HF : Hid (∀ o ∈ H.objs, ∀ z ∈ o.field, in64 z) := hf
  have HR : Hid (∀ X, Below B w X → RdH X _ H) := hR
  have H8 : Hid (H.objs.length = 8) := h8
  rw [h8] at HR ⊢
  obtain ⟨W, hW⟩ : ∃ W, W = ((w.alloc (.cells #[.slice ao 8 co, .slice aw H.weaks.length cw, .slice ab H.buffer.length cb, .slice sa H.sites.length sc] 29)).alloc (.cells #[.slice (some ⟨ga, 0, none⟩) 8 c, .slice (some ⟨gb, 0, none⟩) 8 d] 77)).alloc (.cells #[.slice none 0 0, .slice none 0 0] 77) := ⟨_, rfl⟩
  have BW : Below w.heap.size w W := by rw [hW]; exact (((Below.refl _ _).alloc (Nat.le_refl _) _).alloc (by simp) _).alloc (by simp; omega) _
  have hWs : W.heap.size = w.heap.size + 3 := by rw [hW]; simp
  have HBW : Hid (Below w.heap.size w W) := BW
  have HWs : Hid (W.heap.size = w.heap.size + 3) := hWs
  have q0 : Four W w.heap.size (.slice ao 8 co) (.slice aw H.weaks.length cw) (.slice ab H.buffer.length cb) (.slice sa H.sites.length sc) := by
    have f1 := Four.new w (.slice ao 8 co) (.slice aw H.weaks.length cw) (.slice ab H.buffer.length cb) (.slice sa H.sites.length sc)
    exact Eq.trans (by rw [hW, Below.heap_alloc _ _ _ (by simp; omega), Below.heap_alloc _ _ _ (by simp)]) f1
  have q1 : Two W (w.heap.size + 1) (.slice (some ⟨ga, 0, none⟩) 8 c) (.slice (some ⟨gb, 0, none⟩) 8 d) := by
    have f1 := Two.new (w.alloc (.cells #[.slice ao 8 co, .slice aw H.weaks.length cw, .slice ab H.buffer.length cb, .slice sa H.sites.length sc] 29)) (.slice (some ⟨ga, 0, none⟩) 8 c) (.slice (some ⟨gb, 0, none⟩) 8 d)
    rw [show (w.alloc (.cells #[.slice ao 8 co, .slice aw H.weaks.length cw, .slice ab H.buffer.length cb, .slice sa H.sites.length sc] 29)).heap.size = w.heap.size + 1 from by simp] at f1
    exact Eq.trans (by rw [hW, Below.heap_alloc _ _ _ (by simp)]) f1
  have q2 : Two W (w.heap.size + 2) (.slice none 0 0) (.slice none 0 0) := by
    have f1 := Two.new ((w.alloc (.cells #[.slice ao 8 co, .slice aw H.weaks.length cw, .slice ab H.buffer.length cb, .slice sa H.sites.length sc] 29)).alloc (.cells #[.slice (some ⟨ga, 0, none⟩) 8 c, .slice (some ⟨gb, 0, none⟩) 8 d] 77)) (.slice none 0 0) (.slice none 0 0)
    rw [show ((w.alloc (.cells #[.slice ao 8 co, .slice aw H.weaks.length cw, .slice ab H.buffer.length cb, .slice sa H.sites.length sc] 29)).alloc (.cells #[.slice (some ⟨ga, 0, none⟩) 8 c, .slice (some ⟨gb, 0, none⟩) 8 d] 77)).heap.size = w.heap.size + 2 from by simp] at f1
    rw [hW]
    exact f1
  have HQ : Hid (∀ X, (∀ g, g < W.heap.size → g ≠ ga → g ≠ gb → X.heap[g]? = W.heap[g]?) → Four X w.heap.size (.slice ao 8 co) (.slice aw H.weaks.length cw) (.slice ab H.buffer.length cb) (.slice sa H.sites.length sc) ∧ Two X (w.heap.size + 1) (.slice (some ⟨ga, 0, none⟩) 8 c) (.slice (some ⟨gb, 0, none⟩) 8 d) ∧ Two X (w.heap.size + 2) (.slice none 0 0) (.slice none 0 0)) :=
    fun X hX => ⟨q0.same (hX _ (by omega) (by omega) (by omega)), q1.same (hX _ (by omega) (by omega) (by omega)), q2.same (hX _ (by omega) (by omega) (by omega))⟩
  have HB0 : Hid (BI W ((W.setCell ⟨gb, k, none⟩ (.int .i64 0)).alloc (.cells #[.int .i64 (k : Int)] 3)) B ga gb c d ⟨T.counts, T.colors.set k 0⟩ (.slice (some ⟨W.heap.size, 0, none⟩) 1 1) [(k : Int)]) := by
    have b1 : BI W W B ga gb c d T (.slice none 0 0) [] := ⟨Below.refl _ _, fun _ _ _ _ => rfl, ownI_later hx BW, ownI_later hy BW, hne, by omega, by omega, by omega, ownI_nil _ _⟩
    have b2 := bi_color b1 k 0
    have hz : (W.setCell ⟨gb, k, none⟩ (.int .i64 0)).heap.size = W.heap.size := by simp [World.setCell]
    have b3 := bi_later b2 ((Below.refl _ _).alloc (Nat.le_refl _) (.cells #[.int .i64 (k : Int)] 3))
    have b4 := ownI_one (W.setCell ⟨gb, k, none⟩ (.int .i64 0)) W.heap.size (k : Int) (by omega)
    rw [hz] at b4
    exact ⟨b3.bel, b3.oth, b3.x, b3.y, b3.ne, b3.la, b3.lb, b3.hB, b4⟩
  have HSL : Hid (Slots [(k : Int)]) := fun z hz => by rw [List.mem_singleton.1 hz]; omega
  have HRR : Hid (blackT H T (k : Int) = spreadAll 1 0 H ⟨T.counts, T.colors.set k 0⟩ [(k : Int)]) := by show _ = _; unfold blackT; rw [show ((k : Int)).toNat = k from by omega]
  have HM0 : Hid (mu 0 ((⟨T.counts, T.colors.set k 0⟩ : TrialD), [(k : Int)]) ≤ 17) := by
    have h1 := others_le 0 (T.colors.set k 0)
    rw [List.length_set, ← own_len hy] at h1
    show 2 * others 0 (T.colors.set k 0) + 1 ≤ 17
    omega
  have Hla : Hid (ga < w.heap.size ∧ gb < w.heap.size ∧ B ≤ w.heap.size) := ⟨la, lb, hB⟩
  generalize blackT H T (k : Int) = R at HRR ⊢
  have n1 : ¬ gb = w.heap.size := by omega
  have n2 : ¬ gb = w.heap.size + 1 := by omega
  have n3 : ¬ gb = w.heap.size + 2 := by omega
  have cW : W.cell? ⟨gb, k, none⟩ = some (.int .i64 (T.colors.getD k 0)) := (BW.cell (p := ⟨gb, k, none⟩) lb).trans cb0
  have fW : W.frozen? ⟨gb, k, none⟩ = false := by
    have b1 : BI W W B ga gb c d T (.slice none 0 0) [] := ⟨Below.refl _ _, fun _ _ _ _ => rfl, ownI_later hx BW, ownI_later hy BW, hne, by omega, by omega, by omega, ownI_nil _ _⟩
    exact (bi_cells b1 k hk).2.2.2
  rw [hW] at fW cW
  clear hx hy hR hs hf q0 q1 q2 BW B0 h8 hWs fb0
  go_enter Try.func95, Try.ntmps95
  go_wp2
  rw [← hW]
  clear hW cW fW cb0 n1 n2 n3
  go_loopw [7] (fun vq wr => ∃ (T' : TrialD) (todo : List Int) (qa : Option Addr) (qc : Nat), vq = .slice qa todo.length qc ∧ Hid (BI W wr B ga gb c d T' vq todo) ∧ Hid (Slots todo) ∧ Hid (mu 0 (T', todo) ≤ 17) ∧ Hid (R = spreadAll 1 0 H T' todo)) (fun vq wr => lenV vq + 2 * othersAt wr gb 0)
  case atStart => exact ⟨_, [(k : Int)], _, 1, rfl, HWs.out ▸ HB0.out, HSL, HM0, HRR⟩
  case round =>
    obtain ⟨T', todo, qa, qc, rfl, HI, HT, HMU, HRS⟩ := hrel
    obtain ⟨F0, X1, X2⟩ := HQ.out wr HI.out.oth
    rcases List.eq_nil_or_concat todo with rfl | ⟨rest, kz, rfl⟩
    · have HE : Hid (R = T') := by show _ = _; rw [HRS.out, spreadAll_nil]
      have x0 : wr.cell? ⟨w.heap.size + 1, 0, none⟩ = some (.slice (some ⟨ga, 0, none⟩) 8 c) := X1.cell 0
      have x1 : wr.cell? ⟨w.heap.size + 1, 1, none⟩ = some (.slice (some ⟨gb, 0, none⟩) 8 d) := X1.cell 1
      have r0 : wr.cell? ⟨w.heap.size + 2, 0, none⟩ = some (.slice none 0 0) := X2.cell 0
      have r1 : wr.cell? ⟨w.heap.size + 2, 1, none⟩ = some (.slice none 0 0) := X2.cell 1
      have z0 := X2.frozen 0
      have z1 := X2.frozen 1
      have HFIN : Hid (ownI (setTwo wr (w.heap.size + 2) (.slice (some ⟨ga, 0, none⟩) 8 c) (.slice (some ⟨gb, 0, none⟩) 8 d)) B (.slice (some ⟨ga, 0, none⟩) 8 c) R.counts ∧ ownI (setTwo wr (w.heap.size + 2) (.slice (some ⟨ga, 0, none⟩) 8 c) (.slice (some ⟨gb, 0, none⟩) 8 d)) B (.slice (some ⟨gb, 0, none⟩) 8 d) R.colors ∧ Below B w (setTwo wr (w.heap.size + 2) (.slice (some ⟨ga, 0, none⟩) 8 c) (.slice (some ⟨gb, 0, none⟩) 8 d)) ∧ ∀ g, g < w.heap.size → g ≠ ga → g ≠ gb → (setTwo wr (w.heap.size + 2) (.slice (some ⟨ga, 0, none⟩) 8 c) (.slice (some ⟨gb, 0, none⟩) 8 d)).heap[g]? = w.heap[g]?) := by
        have hs3 := HWs.out
        obtain ⟨l1, l2, l3⟩ := Hla.out
        have ha : ∀ g, (Value.slice (some ⟨ga, 0, none⟩) 8 c).ownBlock = some g → g ≠ w.heap.size + 2 := fun g hg => by
          have : ga = g := by simpa [Value.ownBlock] using hg
          omega
        have hbb : ∀ g, (Value.slice (some ⟨gb, 0, none⟩) 8 d).ownBlock = some g → g ≠ w.heap.size + 2 := fun g hg => by
          have : gb = g := by simpa [Value.ownBlock] using hg
          omega
        rw [HE.out]
        refine ⟨ownI_same HI.out.x (fun g hg => setTwo_other _ _ _ _ g (ha g hg)), ownI_same HI.out.y (fun g hg => setTwo_other _ _ _ _ g (hbb g hg)), ?_, fun g h1 h2 h3 => ?_⟩
        · unfold setTwo
          exact (((HBW.out.mono l3).trans HI.out.bel).setCell (by simp only; omega) _).setCell (by simp only; omega) _
        · exact (setTwo_other _ _ _ _ g (by omega)).trans ((HI.out.oth g (by omega) h2 h3).trans (HBW.out.block g h1))
      clear F0 X1 X2 HI HRS
      go_wp2
      exact bodyPost_ret (v := .agg #[.slice (some ⟨ga, 0, none⟩) 8 c, .slice (some ⟨gb, 0, none⟩) 8 d]) (by simp [results, Try.results95, go_sem, *]) rfl ⟨rfl, HFIN.out⟩
    · rw [List.concat_eq_append] at *
      obtain ⟨m, hm⟩ : ∃ m, rest.length = m := ⟨_, rfl⟩
      have hl : (rest ++ [kz]).length = m + 1 := by simp [hm]
      rw [hl] at HI ⊢
      obtain ⟨s, rfl⟩ : ∃ s : Nat, kz = (s : Int) := ⟨kz.toNat, by have := HT.out kz (by simp); omega⟩
      have hs8 : s < 8 := by have := HT.out (s : Int) (by simp); omega
      rcases ownI_form HI.out.q with ⟨h1, -⟩ | ⟨gq, cap, h1, hgq, hgl, hcap, hmax, HC⟩
      · simp at h1
      have e1 : qa = some ⟨gq, 0, none⟩ ∧ qc = cap := by simp only [Value.slice.injEq] at h1; exact ⟨h1.1, h1.2.2⟩
      obtain ⟨rfl, rfl⟩ := e1
      have hcell : wr.cell? ⟨gq, m, none⟩ = some (.int .i64 (s : Int)) := by
        have h2 := (HC.out m (by omega)).1
        rw [List.getElem_append_right (by omega)] at h2
        simpa using h2
      rw [hl] at hcap
      have hm17 : m ≤ 17 := by have := HMU.out; simp only [mu] at this; omega
      have HPOP : Hid (BI W wr B ga gb c d T' (.slice (some ⟨gq, 0, none⟩) m qc) rest) := bi_pop HI.out
      have hsl : s < H.objs.length := by have := H8.out; omega
      have CK : Hid (∀ _ : Unit, _) := fun (_ : Unit) => sKids_calls _ H s wr (HR.out wr ((HBW.out.mono Hla.out.2.2).trans HI.out.bel)) HS.out hsl (HF.out _ (List.getElem_mem hsl))
      have HKS : Hid (kidsOf H (s : Int) = kidL H H.objs[s].field) := kidsOf_at H s hsl
      have HSN : Hid (R = spreadAll 1 0 H (roundS 1 0 (kidsOf H) T' rest (s : Int)).1 (roundS 1 0 (kidsOf H) T' rest (s : Int)).2) := by show _ = _; rw [HRS.out, spreadAll_snoc 1 0 H T' rest (s : Int) HI.out.eight HT.out]
      have HRO : Hid _ := round_ok 1 0 (kidsOf H) (kidsOf_slots H) T' rest (s : Int) HI.out.eight HT.out
      have HKSL : Hid (Slots (kidL H H.objs[s].field)) := kidL_slots H _
      have HMS : Hid (othersAt wr gb 0 = others 0 T'.colors) := othersAt_is HI.out 0
      have HRSL : Hid (Slots rest) := fun z hz => HT.out z (by simp [hz])
      have HE8 : Hid (Eight T') := HI.out.eight
      unfold roundS at HSN HRO
      rw [HKS.out] at HSN HRO
      have hkl := Nat.le_trans (kidL_le H H.objs[s].field) (HS.out.fields _ (List.getElem_mem hsl))
      generalize kidL H H.objs[s].field = ks at *
      have f0 : wr.cell? ⟨w.heap.size, 0, none⟩ = some (.slice ao 8 co) := F0.cell 0
      have f1 : wr.cell? ⟨w.heap.size, 1, none⟩ = some (.slice aw H.weaks.length cw) := F0.cell 1
      have f2 : wr.cell? ⟨w.heap.size, 2, none⟩ = some (.slice ab H.buffer.length cb) := F0.cell 2
      have f3 : wr.cell? ⟨w.heap.size, 3, none⟩ = some (.slice sa H.sites.length sc) := F0.cell 3
      have HGQ : Hid (gq < wr.heap.size) := hgl
      have HWB : Hid (W.heap.size ≤ wr.heap.size) := HI.out.bel.size
      have hmc : (m : Int) ≤ (qc : Int) := by omega
      have hb1 : decide ((0 : Int) < (m : Int) + 1) = true := decide_eq_true (by omega)
      clear F0 X1 X2 HI HRS HC hgl hgq hmax h1 hl hm HT HKS hsl
      go_wp2_with fail
      refine (CK.out ()).mono ?_
      rintro e w1 ⟨vk, rfl, O1, b1⟩
      obtain ⟨ka, kc, rfl, -⟩ := rdI_own O1
      have HI1 : Hid (BI W w1 B ga gb c d T' (.slice (some ⟨gq, 0, none⟩) m qc) rest) := bi_later HPOP.out b1
      have HK1 : Hid (ownI w1 W.heap.size (.slice ka ks.length kc) ks) := ownI_mono O1 HWB.out
      have HD1 : Hid (Dif2 (.slice (some ⟨gq, 0, none⟩) m qc) (.slice ka ks.length kc)) := fun g h1 h2 => by
        have e1 : gq = g := by simpa [Value.ownBlock] using h1
        have e2 := (ownI_lt O1 g h2).1
        have e3 := HGQ.out
        omega
      have HM1 : Hid (mu 0 (T', rest) ≤ 17) := by
        have h1 := HMU.out
        simp only [mu, List.length_append, List.length_singleton] at h1
        show 2 * others 0 T'.colors + rest.length ≤ 17
        omega
      have HLR : Hid (rest.length = m) := own_len HI1.out.q ▸ rfl
      clear O1 b1 CK HPOP f0 f1 f2 f3 hcell
      obtain ⟨n, hn⟩ : ∃ n, ks.length = n := ⟨_, rfl⟩
      have Hn : Hid (ks.length = n) := hn
      rw [hn] at HK1 HD1 hkl ⊢
      clear hn
      go_wp2
      go_loopw [7, 10] (fun vq i X => ∃ (j : Nat) (T2 : TrialD) (td : List Int) (qa2 : Option Addr) (qc2 : Nat), i = .int .i64 (j : Int) ∧ vq = .slice qa2 td.length qc2 ∧ j ≤ n ∧ Hid (BI W X B ga gb c d T2 vq td) ∧ Hid ((ks.take j).foldl (kidStep 1 0) (T', rest) = (T2, td)) ∧ Hid (ownI X W.heap.size (.slice ka n kc) ks) ∧ Hid (Dif2 vq (.slice ka n kc))) (fun _ i _ => n - (intOf i).toNat)
      case atStart => exact ⟨0, T', rest, _, qc, rfl, by rw [HLR.out], by omega, HI1, rfl, HK1, HD1⟩
      case round =>
        obtain ⟨j, T2, td, qa2, qc2, rfl, rfl, hjn, HI2, HFO, HK2, HD2⟩ := hrel
        by_cases hlt : j < n
        · have hj2 : j < ks.length := by have := Hn.out; omega
          obtain ⟨t, ht⟩ : ∃ t : Nat, ks[j] = (t : Int) := ⟨ks[j].toNat, by have := HKSL.out _ (List.getElem_mem hj2); omega⟩
          have ht8 : t < 8 := by have := HKSL.out _ (List.getElem_mem hj2); omega
          have HML : Hid (td.length ≤ 17) := by
            have h1 := (kids_ok 1 0 (ks.take j) (T', rest) HE8.out HRSL.out (fun z hz => HKSL.out z (List.mem_of_mem_take hz))).2.2
            rw [HFO.out] at h1
            have h2 := HM1.out
            simp only [mu] at h1 h2
            show _ ≤ _
            omega
          have HSTEP : Hid ((ks.take (j + 1)).foldl (kidStep 1 0) (T', rest) = kidStep 1 0 (T2, td) (t : Int)) := by
            show _ = _
            rw [List.take_succ_eq_append_getElem hj2, List.foldl_append, HFO.out, ht]; rfl
          rcases ownI_form HK2.out with ⟨h1, -⟩ | ⟨gk, cap, h1, hgkB, hgk, hcp, hmx, HC⟩
          · simp only [Value.slice.injEq] at h1; omega
          obtain ⟨rfl, rfl⟩ : ka = some ⟨gk, 0, none⟩ ∧ kc = cap := by simp only [Value.slice.injEq] at h1; exact ⟨h1.1, h1.2.2⟩
          have hck : wr.cell? ⟨gk, j, none⟩ = some (.int .i64 (t : Int)) := by
            have h2 := (HC.out j hj2).1
            rw [ht] at h2
            exact h2
          obtain ⟨ca, -, -, -⟩ := bi_cells HI2.out t ht8
          obtain ⟨-, X1, -⟩ := HQ.out wr HI2.out.oth
          have hgal : ga < wr.heap.size := Nat.lt_of_lt_of_le HI2.out.la HI2.out.bel.size
          obtain ⟨z, hz⟩ : ∃ z, T2.counts.getD t 0 = z := ⟨_, rfl⟩
          obtain ⟨y, hy⟩ : ∃ y, T2.colors.getD t 0 = y := ⟨_, rfl⟩
          rw [hz] at ca
          have HKST : Hid (kidStep 1 0 (T2, td) (t : Int) = if y = 0 then ((⟨T2.counts.set t (wrap64 (z + 1)), T2.colors⟩ : TrialD), td) else ((⟨T2.counts.set t (wrap64 (z + 1)), T2.colors.set t 0⟩ : TrialD), td ++ [(t : Int)])) := by
            show _ = _
            unfold kidStep
            simp only [show ((t : Int)).toNat = t from by omega, hz, hy]
          have HY : Hid (T2.colors.getD t 0 = y) := hy
          have HGK : Hid (W.heap.size ≤ gk) := hgkB
          have HTJ : Hid (ks[j] = (t : Int)) := ht
          clear HC h1 hcp hmx hz hy ht hgkB
          go_wp2
          refine wp_region_last 16 (by kernel_rfl) (by kernel_rfl) (fun i _ v => RB (w.heap.size + 1) ga c gk n kc j t z (wrap64 (z + 1)) i v) (fun _ _ _ _ h _ => h) ?_ ?_
          · intro i o hi ho a X hXX hA hdep
            match i, hi, ho with
            | 0, _, ho =>
              obtain rfl := Option.some.inj ho
              exact opFieldT 0 (by omega) (alike_at hA (t := 4) (by kernel_rfl)) ⟨_, rfl, Below.refl _ _, rfl⟩
            | 1, _, ho =>
              obtain rfl := Option.some.inj ho
              have e0 : a.eval (.tmp 40) = .pointer (some ⟨w.heap.size + 1, 0, none⟩) := hdep ⟨0, .data⟩ (by simp) rfl 40 rfl
              exact opLoadI e0 ((X1.later hXX X1.lt).cell 0) ⟨_, rfl, Below.refl _ _, rfl⟩
            | 2, _, ho =>
              obtain rfl := Option.some.inj ho
              exact opMove (alike_at hA (t := 9) (by kernel_rfl)) ⟨_, rfl, Below.refl _ _, rfl⟩
            | 3, _, ho =>
              obtain rfl := Option.some.inj ho
              exact opMove (alike_at hA (t := 10) (by kernel_rfl)) ⟨_, rfl, Below.refl _ _, rfl⟩
            | 4, _, ho =>
              obtain rfl := Option.some.inj ho
              have e2 : a.eval (.tmp 42) = .slice (some ⟨gk, 0, none⟩) n kc := hdep ⟨2, .data⟩ (by simp) rfl 42 rfl
              have e3 : a.eval (.tmp 43) = .int .i64 (j : Int) := hdep ⟨3, .data⟩ (by simp) rfl 43 rfl
              exact opIndexI e2 e3 hlt ⟨_, rfl, Below.refl _ _, rfl⟩
            | 5, _, ho =>
              obtain rfl := Option.some.inj ho
              have e4 : a.eval (.tmp 44) = .pointer (some ⟨gk, j, none⟩) := hdep ⟨4, .data⟩ (by simp) rfl 44 rfl
              exact opLoadInt e4 ((hXX.cell (p := ⟨gk, j, none⟩) hgk).trans hck) ⟨_, rfl, Below.refl _ _, rfl⟩
            | 6, _, ho =>
              obtain rfl := Option.some.inj ho
              exact opFieldT 0 (by omega) (alike_at hA (t := 4) (by kernel_rfl)) ⟨_, rfl, Below.refl _ _, rfl⟩
            | 7, _, ho =>
              obtain rfl := Option.some.inj ho
              have e6 : a.eval (.tmp 46) = .pointer (some ⟨w.heap.size + 1, 0, none⟩) := hdep ⟨6, .data⟩ (by simp) rfl 46 rfl
              exact opLoadI e6 ((X1.later hXX X1.lt).cell 0) ⟨_, rfl, Below.refl _ _, rfl⟩
            | 8, _, ho =>
              obtain rfl := Option.some.inj ho
              exact opMove (alike_at hA (t := 9) (by kernel_rfl)) ⟨_, rfl, Below.refl _ _, rfl⟩
            | 9, _, ho =>
              obtain rfl := Option.some.inj ho
              exact opMove (alike_at hA (t := 10) (by kernel_rfl)) ⟨_, rfl, Below.refl _ _, rfl⟩
            | 10, _, ho =>
              obtain rfl := Option.some.inj ho
              have e8 : a.eval (.tmp 48) = .slice (some ⟨gk, 0, none⟩) n kc := hdep ⟨8, .data⟩ (by simp) rfl 48 rfl
              have e9 : a.eval (.tmp 49) = .int .i64 (j : Int) := hdep ⟨9, .data⟩ (by simp) rfl 49 rfl
              exact opIndexI e8 e9 hlt ⟨_, rfl, Below.refl _ _, rfl⟩
            | 11, _, ho =>
              obtain rfl := Option.some.inj ho
              have e10 : a.eval (.tmp 50) = .pointer (some ⟨gk, j, none⟩) := hdep ⟨10, .data⟩ (by simp) rfl 50 rfl
              exact opLoadInt e10 ((hXX.cell (p := ⟨gk, j, none⟩) hgk).trans hck) ⟨_, rfl, Below.refl _ _, rfl⟩
            | 12, _, ho =>
              obtain rfl := Option.some.inj ho
              have e7 : a.eval (.tmp 47) = .slice (some ⟨ga, 0, none⟩) 8 c := hdep ⟨7, .data⟩ (by simp) rfl 47 rfl
              have e11 : a.eval (.tmp 51) = .int .i64 (t : Int) := hdep ⟨11, .data⟩ (by simp) rfl 51 rfl
              exact opIndexI e7 e11 ht8 ⟨_, rfl, Below.refl _ _, rfl⟩
            | 13, _, ho =>
              obtain rfl := Option.some.inj ho
              have e12 : a.eval (.tmp 52) = .pointer (some ⟨ga, t, none⟩) := hdep ⟨12, .data⟩ (by simp) rfl 52 rfl
              exact opLoadInt e12 ((hXX.cell (p := ⟨ga, t, none⟩) hgal).trans ca) ⟨_, rfl, Below.refl _ _, rfl⟩
            | 14, _, ho =>
              obtain rfl := Option.some.inj ho
              have e13 : a.eval (.tmp 53) = .int .i64 z := hdep ⟨13, .data⟩ (by simp) rfl 53 rfl
              exact opAdd1 e13 ⟨_, rfl, Below.refl _ _, rfl⟩
            | 15, _, ho =>
              obtain rfl := Option.some.inj ho
              have e1 : a.eval (.tmp 41) = .slice (some ⟨ga, 0, none⟩) 8 c := hdep ⟨1, .data⟩ (by simp) rfl 41 rfl
              have e5 : a.eval (.tmp 45) = .int .i64 (t : Int) := hdep ⟨5, .data⟩ (by simp) rfl 45 rfl
              exact opIndexI e1 e5 ht8 ⟨_, rfl, Below.refl _ _, rfl⟩
            | q + 16, hi, _ => exact absurd hi (by omega)
          · intro o ho a X hXX hA hdep
            obtain rfl := Option.some.inj ho
            have e15 : a.eval (.tmp 55) = .pointer (some ⟨ga, t, none⟩) := hdep ⟨15, .data⟩ (by simp) rfl 55 rfl
            have e14 : a.eval (.tmp 54) = .int .i64 (wrap64 (z + 1)) := hdep ⟨14, .data⟩ (by simp) rfl 54 rfl
            have BX := bi_later HI2.out hXX
            obtain ⟨ca2, fa2, -, -⟩ := bi_cells BX t ht8
            refine opStoreInt e15 e14 ca2 fa2 ?_
            have HI3 : Hid _ := bi_count BX t (wrap64 (z + 1))
            have HK3 : Hid (ownI (X.setCell ⟨ga, t, none⟩ (.int .i64 (wrap64 (z + 1)))) W.heap.size (.slice (some ⟨gk, 0, none⟩) n kc) ks) := ownI_same (ownI_later HK2.out hXX) (fun g hg => heap_setCell_other _ _ _ _ (by have := (ownI_lt HK2.out g hg).1; have := HI2.out.la; show g ≠ ga; omega))
            obtain ⟨us, hus, rfl⟩ := alike_tmps hA [40, 41, 42, 43, 44, 45, 46, 47, 48, 49, 50, 51, 52, 53, 54, 55] (by kernel_rfl)
            clear hdep hA hus e15 e14 BX ca2 fa2 ho X1 hck hgk ca hgal
            generalize X.setCell ⟨ga, t, none⟩ (.int .i64 (wrap64 (z + 1))) = Y at *
            simp only [List.mapIdx_cons, List.mapIdx_nil, Nat.reduceAdd, List.contains_cons, List.contains_nil, Nat.reduceBEq, Bool.or_false, Bool.or_true, if_true, if_false, Bool.false_eq_true]
            have HCY : Hid (∀ V, Below Y.heap.size Y V → V.cell? ⟨w.heap.size + 1, 1, none⟩ = some (.slice (some ⟨gb, 0, none⟩) 8 d) ∧ V.cell? ⟨gk, j, none⟩ = some (.int .i64 (t : Int)) ∧ V.cell? ⟨gb, t, none⟩ = some (.int .i64 y)) := fun V hV => by
              have b1 := bi_later HI3.out hV
              have k1 := ownI_later HK3.out hV
              refine ⟨(HQ.out V b1.oth).2.1.cell 1, ?_, ?_⟩
              · rcases ownI_form k1 with ⟨h1, -⟩ | ⟨gk2, cap2, h1, -, -, -, -, HC⟩
                · cases h1
                · have e1 : gk = gk2 := by simp only [Value.slice.injEq, Option.some.injEq, Addr.mk.injEq] at h1; exact h1.1.1
                  subst e1
                  have h2 := (HC.out j hj2).1
                  rw [HTJ.out] at h2
                  exact h2
              · have := (bi_cells b1 t ht8).2.2.1
                rw [HY.out] at this
                exact this
            have hne2 := LaterW.some_ Y
            have y4 : ∀ V : LaterW Y, V.on.cell? ⟨w.heap.size + 1, 1, none⟩ = some (.slice (some ⟨gb, 0, none⟩) 8 d) := fun V => (HCY.out V.on V.bel).1
            have yk : ∀ V : LaterW Y, V.on.cell? ⟨gk, j, none⟩ = some (.int .i64 (t : Int)) := fun V => (HCY.out V.on V.bel).2.1
            have yc : ∀ V : LaterW Y, V.on.cell? ⟨gb, t, none⟩ = some (.int .i64 y) := fun V => (HCY.out V.on V.bel).2.2
            have i1 : (j : Int) < (n : Int) := by omega
            have i2 : (t : Int) < 8 := by omega
            by_cases hy0 : y = 0
            · have hq : (y != 0) = false := by simp [hy0]
              have HNX : Hid ((ks.take (j + 1)).foldl (kidStep 1 0) (T', rest) = ((⟨T2.counts.set t (wrap64 (z + 1)), T2.colors⟩ : TrialD), td)) := by show _ = _; rw [HSTEP.out, HKST.out, if_pos hy0]
              clear hy0 HKST HSTEP
              go_wp2
              refine wp_region_later Y (Below.refl _ _) (by kernel_rfl) (by kernel_rfl) ?_
              repeat (go_big_quiet_step (fail))
              refine wpQuiet_nil ?_
              intro V hVe
              have hV : Below Y.heap.size Y V := by obtain ⟨q, hq2⟩ := hVe; rw [hq2]; exact q.bel
              have HI4 : Hid _ := bi_later HI3.out hV
              have HK4 : Hid _ := ownI_later HK3.out hV
              clear hVe y4 yk yc hne2 hV
              go_wp2
              go_roundw
              case rel => exact ⟨j + 1, _, td, qa2, qc2, by go_num, rfl, by omega, HI4, HNX, HK4, HD2⟩
              case measure => simp [intOf]; omega
            · have hq : (y != 0) = true := by simp [hy0]
              have HNX : Hid ((ks.take (j + 1)).foldl (kidStep 1 0) (T', rest) = ((⟨T2.counts.set t (wrap64 (z + 1)), T2.colors.set t 0⟩ : TrialD), td ++ [(t : Int)])) := by show _ = _; rw [HSTEP.out, HKST.out, if_neg hy0]
              clear hy0 HKST HSTEP
              go_wp2
              refine wp_region_later Y (Below.refl _ _) (by kernel_rfl) (by kernel_rfl) ?_
              repeat (go_big_quiet_step (fail))
              refine wpQuiet_nil ?_
              intro V hVe
              have hV : Below Y.heap.size Y V := by obtain ⟨q, hq2⟩ := hVe; rw [hq2]; exact q.bel
              have HI4 : Hid _ := bi_later HI3.out hV
              have HK4 : Hid _ := ownI_later HK3.out hV
              obtain ⟨-, hckV, -⟩ := HCY.out V hV
              have hgkV : gk < V.heap.size := (ownI_lt HK4.out gk rfl).2
              have Y1 := (HQ.out V HI4.out.oth).2.1
              clear hVe y4 yk yc hne2 hV
              go_wp2
              refine wp_region_last 7 (by kernel_rfl) (by kernel_rfl) (fun i _ v => RCo (w.heap.size + 1) gb d gk n kc j t i v) (fun _ _ _ _ h _ => h) ?_ ?_
              · intro i o hi ho a X hXX hA hdep
                match i, hi, ho with
                | 0, _, ho =>
                  obtain rfl := Option.some.inj ho
                  exact opFieldT 1 (by omega) (alike_at hA (t := 4) (by kernel_rfl)) ⟨_, rfl, Below.refl _ _, rfl⟩
                | 1, _, ho =>
                  obtain rfl := Option.some.inj ho
                  have e0 : a.eval (.tmp 65) = .pointer (some ⟨w.heap.size + 1, 1, none⟩) := hdep ⟨0, .data⟩ (by simp) rfl 65 rfl
                  exact opLoadI e0 ((Y1.later hXX Y1.lt).cell 1) ⟨_, rfl, Below.refl _ _, rfl⟩
                | 2, _, ho =>
                  obtain rfl := Option.some.inj ho
                  exact opMove (alike_at hA (t := 9) (by kernel_rfl)) ⟨_, rfl, Below.refl _ _, rfl⟩
                | 3, _, ho =>
                  obtain rfl := Option.some.inj ho
                  exact opMove (alike_at hA (t := 10) (by kernel_rfl)) ⟨_, rfl, Below.refl _ _, rfl⟩
                | 4, _, ho =>
                  obtain rfl := Option.some.inj ho
                  have e2 : a.eval (.tmp 67) = .slice (some ⟨gk, 0, none⟩) n kc := hdep ⟨2, .data⟩ (by simp) rfl 67 rfl
                  have e3 : a.eval (.tmp 68) = .int .i64 (j : Int) := hdep ⟨3, .data⟩ (by simp) rfl 68 rfl
                  exact opIndexI e2 e3 hlt ⟨_, rfl, Below.refl _ _, rfl⟩
                | 5, _, ho =>
                  obtain rfl := Option.some.inj ho
                  have e4 : a.eval (.tmp 69) = .pointer (some ⟨gk, j, none⟩) := hdep ⟨4, .data⟩ (by simp) rfl 69 rfl
                  exact opLoadInt e4 ((hXX.cell (p := ⟨gk, j, none⟩) hgkV).trans hckV) ⟨_, rfl, Below.refl _ _, rfl⟩
                | 6, _, ho =>
                  obtain rfl := Option.some.inj ho
                  have e1 : a.eval (.tmp 66) = .slice (some ⟨gb, 0, none⟩) 8 d := hdep ⟨1, .data⟩ (by simp) rfl 66 rfl
                  have e5 : a.eval (.tmp 70) = .int .i64 (t : Int) := hdep ⟨5, .data⟩ (by simp) rfl 70 rfl
                  exact opIndexI e1 e5 ht8 ⟨_, rfl, Below.refl _ _, rfl⟩
              · intro o ho a X hXX hA hdep
                obtain rfl := Option.some.inj ho
                have e6 : a.eval (.tmp 71) = .pointer (some ⟨gb, t, none⟩) := hdep ⟨6, .data⟩ (by simp) rfl 71 rfl
                have BX := bi_later HI4.out hXX
                obtain ⟨-, -, cb2, fb2⟩ := bi_cells BX t ht8
                refine opStoreC e6 cb2 fb2 ?_
                have HI5 : Hid _ := bi_color BX t 0
                have HK5 : Hid (ownI (X.setCell ⟨gb, t, none⟩ (.int .i64 0)) W.heap.size (.slice (some ⟨gk, 0, none⟩) n kc) ks) := ownI_same (ownI_later HK4.out hXX) (fun g hg => heap_setCell_other _ _ _ _ (by have := (ownI_lt HK4.out g hg).1; have := HI2.out.lb; show g ≠ gb; omega))
                obtain ⟨us, hus, rfl⟩ := alike_tmps hA [65, 66, 67, 68, 69, 70, 71] (by kernel_rfl)
                clear hdep hA hus e6 BX cb2 fb2 ho Y1 hckV hgkV
                generalize X.setCell ⟨gb, t, none⟩ (.int .i64 0) = Y2 at *
                simp only [List.mapIdx_cons, List.mapIdx_nil, Nat.reduceAdd, List.contains_cons, List.contains_nil, Nat.reduceBEq, Bool.or_false, Bool.or_true, if_true, if_false, Bool.false_eq_true]
                have hck5 : Y2.cell? ⟨gk, j, none⟩ = some (.int .i64 (t : Int)) := by
                  rcases ownI_form HK5.out with ⟨h1, -⟩ | ⟨gk2, cap2, h1, -, -, -, -, HC⟩
                  · cases h1
                  · have e1 : gk = gk2 := by simp only [Value.slice.injEq, Option.some.injEq, Addr.mk.injEq] at h1; exact h1.1.1
                    subst e1
                    have h2 := (HC.out j hj2).1
                    rw [HTJ.out] at h2
                    exact h2
                obtain ⟨U, hU⟩ : ∃ U, U = Y2.alloc (.cells #[.int .i64 (t : Int)] 3) := ⟨_, rfl⟩
                have bU : Below Y2.heap.size Y2 U := by rw [hU]; exact (Below.refl _ _).alloc (Nat.le_refl _) _
                have HIU : Hid _ := bi_later HI5.out bU
                have HKU : Hid _ := ownI_later HK5.out bU
                have hUc : U.cell? ⟨Y2.heap.size, 0, none⟩ = some (.int .i64 (t : Int)) := by rw [hU, World.cell?_alloc_mark]; rfl
                have HUB : Hid (W.heap.size ≤ U.heap.size) := HIU.out.bel.size
                clear bU
                go_wp2_with (at_builtin; rw [← hU]; clear hU; refine wpList_appendL rfl _ _ rfl W.heap.size _ _ rfl HIU.out.q ⟨Y2.heap.size, 0, none⟩ (t : Int) rfl hUc ?hlen HUB.out ?_)
                case hlen => have := HML.out; omega
                intro v6 X6 O6 s6 H6 A6 B6
                obtain ⟨qa6, qc6, rfl, -⟩ := rdI_own O6
                have HI6 : Hid _ := bi_push HIU.out H6.out B6.out O6
                have HK6 : Hid (ownI X6 W.heap.size (.slice (some ⟨gk, 0, none⟩) n kc) ks) := ownI_same HKU.out (fun g hg => H6.out g (ownI_lt HKU.out g hg).2 (fun e => HD2.out g e hg))
                have HD6 : Hid (Dif2 (.slice qa6 (td ++ [(t : Int)]).length qc6) (.slice (some ⟨gk, 0, none⟩) n kc)) := fun g h1 h2 => by
                  rcases A6.out with e | e
                  · exact HD2.out g (by rw [← e]; exact h1) h2
                  · rw [e] at h1
                    injection h1 with h1
                    have := (ownI_lt HKU.out g h2).2
                    omega
                clear O6 H6 A6 B6 hck5 hUc
                go_wp2
                go_roundw
                case rel => exact ⟨j + 1, _, td ++ [(t : Int)], qa6, qc6, by go_num, by simp, by omega, HI6, HNX, HK6, HD6⟩
                case measure => simp [intOf]; omega
        · have HALL : Hid (ks.foldl (kidStep 1 0) (T', rest) = (T2, td)) := by
            have h1 := HFO.out
            rw [List.take_of_length_le (by have := Hn.out; omega)] at h1
            exact h1
          have HT2 : Hid (Slots td ∧ mu 0 (T2, td) < mu 0 (T', rest ++ [(s : Int)]) ∧ R = spreadAll 1 0 H T2 td) := by
            have h1 := HRO.out
            have h2 := HSN.out
            rw [HALL.out] at h1 h2
            exact ⟨h1.2.1, h1.2.2, h2⟩
          have HMS2 : Hid (othersAt wr gb 0 = others 0 T2.colors) := othersAt_is HI2.out 0
          have hge : n ≤ j := by omega
          clear hlt
          go_wp2
          go_roundw
          case rel => exact ⟨T2, td, qa2, qc2, rfl, HI2, HT2.out.1, by have := HT2.out.2.1; have := HMU.out; show _ ≤ _; omega, HT2.out.2.2⟩
          case measure =>
            have h1 := HT2.out.2.1
            have h2 := HMS2.out
            have h3 := HMS.out
            have h4 := HLR.out
            simp only [mu, List.length_append, List.length_singleton] at h1
            show lenV (.slice qa2 td.length qc2) + 2 * othersAt _ gb 0 < lenV (.slice (some ⟨gq, 0, none⟩) (m + 1) qc) + 2 * othersAt _ gb 0
            simp only [lenV]
            omega
end Go.Proofs.Ytnjplfofcjonhaa
