/- What impl.copyHeap makes: the heap in memory of its own. -/
import Derived.Test.YtjhdnachbahbmaaICopyMath
import Derived.Deep.RegionHeld
namespace Go.Proofs.Ytjhdnachbahbmaa
open Go.RowKit
set_option linter.unusedVariables false
set_option maxRecDepth 100000

/-- What each operation of the copy's literal yields. -/
def RD (B P : Nat) (oa : Option Addr) (on oc : Nat) (wa : Option Addr) (wn wc : Nat) (ia : Option Addr) (im ic : Nat) (sa : Option Addr) (sn sc : Nat) (NO NW NI NS : List Value) : Nat → World → Value → Prop
  | 0, X, v => v = .pointer (some ⟨P, 0, none⟩)
  | 1, X, v => v = .slice oa on oc
  | 2, X, v => X.ownsRow B 50 8 v on NO
  | 3, X, v => v = .pointer (some ⟨P, 1, none⟩)
  | 4, X, v => v = .slice wa wn wc
  | 5, X, v => X.ownsRow B 63 2 v wn NW
  | 6, X, v => v = .pointer (some ⟨P, 2, none⟩)
  | 7, X, v => v = .slice ia im ic
  | 8, X, v => X.ownsRow B 3 1 v im NI
  | 9, X, v => v = .pointer (some ⟨P, 3, none⟩)
  | 10, X, v => v = .slice sa sn sc
  | 11, X, v => X.ownsRow B 9 1 v sn NS
  | 12, X, v => ∃ x0 c0 x1 c1 x2 c2 x3 c3, v = .agg #[.slice x0 on c0, .slice x1 wn c1, .slice x2 im c2, .slice x3 sn c3] ∧ X.ownsRow B 50 8 (.slice x0 on c0) on NO ∧ X.ownsRow B 63 2 (.slice x1 wn c1) wn NW ∧ X.ownsRow B 3 1 (.slice x2 im c2) im NI ∧ X.ownsRow B 9 1 (.slice x3 sn c3) sn NS
  | 13, X, v => ∃ g, v = .pointer (some ⟨g, 0, none⟩) ∧ B ≤ g ∧ Four X g (.slice none 0 0) (.slice none 0 0) (.slice none 0 0) (.slice none 0 0)
  | _, _, _ => True
theorem rd_mono {B P : Nat} {oa : Option Addr} {on oc : Nat} {wa : Option Addr} {wn wc : Nat} {ia : Option Addr} {im ic : Nat} {sa : Option Addr} {sn sc : Nat} {NO NW NI NS : List Value} (i : Nat) (X Y : World) (v : Value) (h : RD B P oa on oc wa wn wc ia im ic sa sn sc NO NW NI NS i X v) (hb : Below X.heap.size X Y) : RD B P oa on oc wa wn wc ia im ic sa sn sc NO NW NI NS i Y v := by
  match i, h with
  | 0, h => exact h
  | 1, h => exact h
  | 2, h => exact row_later h hb
  | 3, h => exact h
  | 4, h => exact h
  | 5, h => exact row_later h hb
  | 6, h => exact h
  | 7, h => exact h
  | 8, h => exact row_later h hb
  | 9, h => exact h
  | 10, h => exact h
  | 11, h => exact row_later h hb
  | 12, ⟨x0, c0, x1, c1, x2, c2, x3, c3, h1, h2, h3, h4, h5⟩ => exact ⟨x0, c0, x1, c1, x2, c2, x3, c3, h1, row_later h2 hb, row_later h3 hb, row_later h4 hb, row_later h5 hb⟩
  | 13, ⟨g, h1, h2, h3⟩ => exact ⟨g, h1, h2, h3.later hb⟩
  | n + 14, _ => exact trivial

set_option maxHeartbeats 4000000 in
theorem iCopy_calls (v : Value) (H : HeapD) (w : World) (h : RdH w v H) (hs : SmallH H) :
    Calls Try.prog 14 #[v] w fun e w' => ∃ s : HSh, e = .returned s.v ∧ HM w' w.heap.size s H ∧ Below w.heap.size w w' := by
  obtain ⟨ao, co, aw, cw, ab, cb, sa, sc, rfl, ro, rwk, ri, rs⟩ := h
  have l0 := hs.objs
  have l1 := hs.weaks
  have l2 := hs.buffer
  have l3 := hs.sites
  obtain ⟨W, hW⟩ : ∃ W, W = (w.alloc (.cells #[.slice ao H.objs.length co, .slice aw H.weaks.length cw, .slice ab H.buffer.length cb, .slice sa H.sites.length sc] 33)).alloc (.cells #[.slice none 0 0, .slice none 0 0, .slice none 0 0, .slice none 0 0] 33) := ⟨_, rfl⟩
  have BW : Below w.heap.size w W := by rw [hW]; exact ((Below.refl _ _).alloc (Nat.le_refl _) _).alloc (by simp) _
  have hWs : W.heap.size = w.heap.size + 2 := by rw [hW]; simp
  have FP : Four W w.heap.size (.slice ao H.objs.length co) (.slice aw H.weaks.length cw) (.slice ab H.buffer.length cb) (.slice sa H.sites.length sc) := by
    have f1 := Four.new w (.slice ao H.objs.length co) (.slice aw H.weaks.length cw) (.slice ab H.buffer.length cb) (.slice sa H.sites.length sc)
    have hb2 : Below (w.heap.size + 1) (w.alloc (.cells #[.slice ao H.objs.length co, .slice aw H.weaks.length cw, .slice ab H.buffer.length cb, .slice sa H.sites.length sc] 33)) W := by rw [hW]; exact (Below.refl _ _).alloc (by simp) _
    exact (hb2.block w.heap.size (by omega)).trans f1
  have FR : Four W (w.heap.size + 1) (.slice none 0 0) (.slice none 0 0) (.slice none 0 0) (.slice none 0 0) := by
    rw [hW]
    have f1 := Four.new (w.alloc (.cells #[.slice ao H.objs.length co, .slice aw H.weaks.length cw, .slice ab H.buffer.length cb, .slice sa H.sites.length sc] 33)) (.slice none 0 0) (.slice none 0 0) (.slice none 0 0) (.slice none 0 0)
    simpa using f1
  obtain ⟨fs0, fl0, ff0, so⟩ := srcO (rdO_later ro BW)
  have HSO : Hid (SrcC W ao H.objs.length 8 ((H.objs.zip fs0).flatMap cellsOb)) := so
  have HF0 : Hid (∀ j (h1 : j < H.objs.length) (h2 : j < fs0.length), fs0[j].n = H.objs[j].field.length ∧ RdI W fs0[j].f H.objs[j].field) := ff0
  have HL0 : Hid (fs0.length = H.objs.length) := fl0
  have HSW : Hid (SrcC W aw H.weaks.length 2 (H.weaks.flatMap cellsW)) := (srcW rwk).later BW
  have HSI : Hid (SrcC W ab H.buffer.length 1 (H.buffer.map intV)) := (srcI ri).later BW
  have HSS : Hid (SrcC W sa H.sites.length 1 (H.sites.map strV)) := (srcS rs).later BW
  have HFP : Hid (Four W w.heap.size (.slice ao H.objs.length co) (.slice aw H.weaks.length cw) (.slice ab H.buffer.length cb) (.slice sa H.sites.length sc)) := FP
  have HFR : Hid (Four W (w.heap.size + 1) (.slice none 0 0) (.slice none 0 0) (.slice none 0 0) (.slice none 0 0)) := FR
  have HFL : Hid (∀ z ∈ H.objs, z.field.length ≤ 1048576) := hs.fields
  have HNM : Hid (∀ z ∈ H.sites, z.length ≤ 1048576) := hs.names
  have HBW : Hid (Below w.heap.size w W) := BW
  have HWs : Hid (W.heap.size = w.heap.size + 2) := hWs
  clear ro rwk ri rs FP FR hs BW so ff0 fl0
  go_enter Try.func14, Try.ntmps14
  go_wp2
  rw [← hW]
  clear hW
  refine wp_region_last 14 (by kernel_rfl) (by kernel_rfl) (RD W.heap.size w.heap.size ao H.objs.length co aw H.weaks.length cw ab H.buffer.length cb sa H.sites.length sc ((H.objs.zip fs0).flatMap cellsOb) (H.weaks.flatMap cellsW) (H.buffer.map intV) (H.sites.map strV)) rd_mono ?_ ?_
  · intro i o hi ho a X hX hA hdep
    have FX := HFP.out.later hX
    have hXs := hX.size
    match i, hi, ho with
    | 0, _, ho =>
      obtain rfl := Option.some.inj ho
      exact opField 0 (by omega) (alike_at hA (t := 1) (by kernel_rfl)) ⟨_, rfl, Below.refl _ _, rfl⟩
    | 1, _, ho =>
      obtain rfl := Option.some.inj ho
      have e1 : a.eval (.tmp 6) = .pointer (some ⟨w.heap.size, 0, none⟩) := hdep ⟨0, .data⟩ (by simp) rfl 6 rfl
      exact opLoadO e1 (FX.cell 0) ⟨_, rfl, Below.refl _ _, rfl⟩
    | 2, _, ho =>
      obtain rfl := Option.some.inj ho
      have e1 : a.eval (.tmp 7) = .slice ao H.objs.length co := hdep ⟨1, .data⟩ (by simp) rfl 7 rfl
      exact opCallO e1 (cloneO_calls X ao H.objs.length co _ (HSO.out.later hX) (by omega)) (fun e w' ⟨x, h1, h2, h3⟩ => ⟨x, h1, _, rfl, h3, row_mono h2 hXs⟩)
    | 3, _, ho =>
      obtain rfl := Option.some.inj ho
      exact opField 1 (by omega) (alike_at hA (t := 1) (by kernel_rfl)) ⟨_, rfl, Below.refl _ _, rfl⟩
    | 4, _, ho =>
      obtain rfl := Option.some.inj ho
      have e1 : a.eval (.tmp 9) = .pointer (some ⟨w.heap.size, 1, none⟩) := hdep ⟨3, .data⟩ (by simp) rfl 9 rfl
      exact opLoadW e1 (FX.cell 1) ⟨_, rfl, Below.refl _ _, rfl⟩
    | 5, _, ho =>
      obtain rfl := Option.some.inj ho
      have e1 : a.eval (.tmp 10) = .slice aw H.weaks.length cw := hdep ⟨4, .data⟩ (by simp) rfl 10 rfl
      exact opCallW e1 (cloneW_calls X aw H.weaks.length cw _ (HSW.out.later hX) (by omega)) (fun e w' ⟨x, h1, h2, h3⟩ => ⟨x, h1, _, rfl, h3, row_mono h2 hXs⟩)
    | 6, _, ho =>
      obtain rfl := Option.some.inj ho
      exact opField 2 (by omega) (alike_at hA (t := 1) (by kernel_rfl)) ⟨_, rfl, Below.refl _ _, rfl⟩
    | 7, _, ho =>
      obtain rfl := Option.some.inj ho
      have e1 : a.eval (.tmp 12) = .pointer (some ⟨w.heap.size, 2, none⟩) := hdep ⟨6, .data⟩ (by simp) rfl 12 rfl
      exact opLoadI e1 (FX.cell 2) ⟨_, rfl, Below.refl _ _, rfl⟩
    | 8, _, ho =>
      obtain rfl := Option.some.inj ho
      have e1 : a.eval (.tmp 13) = .slice ab H.buffer.length cb := hdep ⟨7, .data⟩ (by simp) rfl 13 rfl
      exact opCallI e1 (cloneI_calls X ab H.buffer.length cb _ (HSI.out.later hX) (by omega)) (fun e w' ⟨x, h1, h2, h3⟩ => ⟨x, h1, _, rfl, h3, row_mono h2 hXs⟩)
    | 9, _, ho =>
      obtain rfl := Option.some.inj ho
      exact opField 3 (by omega) (alike_at hA (t := 1) (by kernel_rfl)) ⟨_, rfl, Below.refl _ _, rfl⟩
    | 10, _, ho =>
      obtain rfl := Option.some.inj ho
      have e1 : a.eval (.tmp 15) = .pointer (some ⟨w.heap.size, 3, none⟩) := hdep ⟨9, .data⟩ (by simp) rfl 15 rfl
      exact opLoadS e1 (FX.cell 3) ⟨_, rfl, Below.refl _ _, rfl⟩
    | 11, _, ho =>
      obtain rfl := Option.some.inj ho
      have e1 : a.eval (.tmp 16) = .slice sa H.sites.length sc := hdep ⟨10, .data⟩ (by simp) rfl 16 rfl
      exact opCallS e1 (cloneS_calls X sa H.sites.length sc _ (HSS.out.later hX) (by omega)) (fun e w' ⟨x, h1, h2, h3⟩ => ⟨x, h1, _, rfl, h3, row_mono h2 hXs⟩)
    | 12, _, ho =>
      obtain rfl := Option.some.inj ho
      have r0 : X.ownsRow W.heap.size 50 8 (a.eval (.tmp 8)) H.objs.length ((H.objs.zip fs0).flatMap cellsOb) := hdep ⟨2, .data⟩ (by simp) rfl 8 rfl
      have r1 : X.ownsRow W.heap.size 63 2 (a.eval (.tmp 11)) H.weaks.length (H.weaks.flatMap cellsW) := hdep ⟨5, .data⟩ (by simp) rfl 11 rfl
      have r2 : X.ownsRow W.heap.size 3 1 (a.eval (.tmp 14)) H.buffer.length (H.buffer.map intV) := hdep ⟨8, .data⟩ (by simp) rfl 14 rfl
      have r3 : X.ownsRow W.heap.size 9 1 (a.eval (.tmp 17)) H.sites.length (H.sites.map strV) := hdep ⟨11, .data⟩ (by simp) rfl 17 rfl
      obtain ⟨x0, c0, e0, _⟩ := row_form r0
      obtain ⟨x1, c1, e1, _⟩ := row_form r1
      obtain ⟨x2, c2, e2, _⟩ := row_form r2
      obtain ⟨x3, c3, e3, _⟩ := row_form r3
      rw [e0] at r0
      rw [e1] at r1
      rw [e2] at r2
      rw [e3] at r3
      exact opBuild4 e0 e1 e2 e3 ⟨_, rfl, Below.refl _ _, x0, c0, x1, c1, x2, c2, x3, c3, rfl, r0, r1, r2, r3⟩
    | 13, _, ho =>
      obtain rfl := Option.some.inj ho
      exact opAlloc ⟨_, rfl, (Below.refl _ _).alloc (Nat.le_refl _) _, X.heap.size, rfl, hXs, Four.new X _ _ _ _⟩
  · intro o ho a X hX hA hdep
    obtain rfl := Option.some.inj ho
    obtain ⟨g, e1, gB, hf⟩ := hdep ⟨13, .data⟩ (by simp) rfl 3 rfl
    obtain ⟨x0, c0, x1, c1, x2, c2, x3, c3, e2, r0, r1, r2, r3⟩ := hdep ⟨12, .data⟩ (by simp) rfl 18 rfl
    refine opStoreH e1 e2 hf ?_
    obtain ⟨us, hus, rfl⟩ := alike_tmps hA [6, 7, 8, 9, 10, 11, 12, 13, 14, 15, 16, 17, 18, 3] (by kernel_rfl)
    have e3 : us 3 = .pointer (some ⟨g, 0, none⟩) := (hus 3).symm.trans e1
    have HC : Hid (DI W (setFour X g (.slice x0 H.objs.length c0) (.slice x1 H.weaks.length c1) (.slice x2 H.buffer.length c2) (.slice x3 H.sites.length c3)) W.heap.size g H x0 c0 x1 c1 x2 c2 x3 c3 fs0 0) := by
      have ne : ∀ {n sz : Nat} {e : TypeId} {v : Value} {xs : List Value}, X.ownsRow W.heap.size e sz v n xs → e ≠ 33 → (setFour X g (.slice x0 H.objs.length c0) (.slice x1 H.weaks.length c1) (.slice x2 H.buffer.length c2) (.slice x3 H.sites.length c3)).ownsRow W.heap.size e sz v n xs := fun hr hne => row_same hr (fun i hi => by
        obtain ⟨cur, hc⟩ := row_kind hr i hi
        exact setFour_other _ _ _ _ _ _ i (kind_ne hc hf hne))
      have r0' := ne r0 (by decide)
      refine ⟨?_, hf.setAll _ _ _ _, gB, fun y hy => ?_, HL0.out, row_objs HL0.out r0', ne r1 (by decide), ne r2 (by decide), ne r3 (by decide), fun i hi hi2 => (HF0.out i hi hi2).1, fun i _ _ hi => absurd hi (Nat.not_lt_zero _), fun i hi hi2 _ => (HF0.out i hi hi2).2, fun a b _ _ _ hb => absurd hb (Nat.not_lt_zero _), fun i _ hi => absurd hi (Nat.not_lt_zero _), row_cap r0⟩
      · unfold setFour
        exact (((hX.setCell gB _).setCell gB _).setCell gB _).setCell gB _
      · obtain ⟨hb1, hb2⟩ := row_block r0' y hy
        exact ⟨hb1, hb2, row_kind r0' _ (own_block hy)⟩
    clear hdep hA hus e1 e2 hf r0 r1 r2 r3 ho HF0 HL0 HSO HSW HSI HSS HFP
    generalize setFour X g (.slice x0 H.objs.length c0) (.slice x1 H.weaks.length c1) (.slice x2 H.buffer.length c2) (.slice x3 H.sites.length c3) = Y at *
    simp only [List.mapIdx_cons, List.mapIdx_nil, Nat.reduceAdd, List.contains_cons, List.contains_nil, Nat.reduceBEq, Bool.or_false, Bool.or_true, if_true, if_false, Bool.false_eq_true, e3]
    clear e3
    have y0 := HC.out.x.cell 0
    simp only [List.getElem?_toArray, List.getElem?_cons_zero] at y0
    go_wp2
    clear y0
    go_loopw [22] (fun i wr => ∃ (j : Nat) (fs : List OSh), i = .int .i64 (j : Int) ∧ j ≤ H.objs.length ∧ Hid (DI W wr W.heap.size g H x0 c0 x1 c1 x2 c2 x3 c3 fs j)) (fun i _ => H.objs.length - (intOf i).toNat)
    case atStart => exact ⟨0, fs0, rfl, Nat.zero_le _, HC⟩
    case round =>
      clear HC
      obtain ⟨j, fs, rfl, hjl, HI⟩ := hrel
      have hbs := HI.out.bel.size
      have hgl := HI.out.x.lt
      by_cases hlt : j < H.objs.length
      · have hj2 : j < fs.length := by rw [HI.out.fl]; exact hlt
        obtain ⟨go, rfl, hob, hfz⟩ := HI.out.o j hlt hj2
        have hfl := HFL.out _ (List.getElem_mem hlt)
        obtain ⟨-, hgo, cuo, hko⟩ := HI.out.og _ rfl
        simp only at hgo hko
        have hgg : go ≠ g := kind_ne hko HI.out.x (by decide)
        clear hko
        have HST : Hid (∀ (w1 : World) (t : OSh), Below wr.heap.size wr w1 → t.n = H.objs[j].field.length → ownI w1 wr.heap.size (.slice t.f t.n t.c) H.objs[j].field → DI W (w1.setCell ⟨go, j * 8 + 6, none⟩ (.slice t.f t.n t.c)) W.heap.size g H (some ⟨go, 0, none⟩) c0 x1 c1 x2 c2 x3 c3 (fs.set j t) (j + 1)) :=
          fun w1 t b1 hn ht => di_step HI.out hbs hlt b1 go rfl t hn ht
        have hnn := HI.out.nn j hlt hj2
        have HSR : Hid (∀ X, Below wr.heap.size wr X → SrcC X fs[j].f fs[j].n 1 (H.objs[j].field.map intV)) := fun X hX => by
          rw [hnn]; exact ((srcI (HI.out.src j hlt hj2 (Nat.le_refl _))).later HI.out.bel).later hX
        have HC6 : Hid (∀ X, Below wr.heap.size wr X → X.cell? ⟨g, 0, none⟩ = some (.slice (some ⟨go, 0, none⟩) H.objs.length c0) ∧ X.cell? ⟨go, j * 8 + 6, none⟩ = some (.slice fs[j].f fs[j].n fs[j].c) ∧ X.frozen? ⟨go, j * 8 + 6, none⟩ = false) := fun X hX =>
          ⟨(hX.cell (p := ⟨g, 0, none⟩) hgl).trans (HI.out.x.cell 0), (hX.cell (p := ⟨go, j * 8 + 6, none⟩) hgo).trans hob.c6, (hX.frozen (p := ⟨go, j * 8 + 6, none⟩) hgo).trans (hfz 6 (by omega))⟩
        have HCL : Hid (∀ X, Below wr.heap.size wr X → _) := fun X hX => cloneI_calls X fs[j].f fs[j].n fs[j].c _ (HSR.out X hX) (by rw [hnn]; omega)
        rw [hnn] at HCL HC6
        generalize fs[j].f = f at HCL HC6
        generalize fs[j].c = fc at HCL HC6
        generalize H.objs[j].field = fd at HCL HC6 HST hfl
        clear hob hfz HI HSR hnn
        have D1 : Below wr.heap.size wr wr.drew := (Below.refl _ _).drew
        obtain ⟨k0, k1, k2⟩ := HC6.out _ (Below.refl _ _)
        have hi0 : (0 : Int) ≤ (j : Int) := by omega
        have hi1 : (j : Int) < (H.objs.length : Int) := by omega
        go_wp2
        go_region_with (go_at_call 21; refine (HCL.out _ D1).mono ?_; rintro e w1 ⟨x, rfl, r1, b1⟩; (have B1 := D1.trans (b1.mono D1.size)); (obtain ⟨m0, m1, m2⟩ := HC6.out _ B1); (obtain ⟨f1, d1, rfl, -⟩ := row_form r1))
        all_goals
          have HN : Hid _ := HST.out w1 ⟨f1, fd.length, d1⟩ B1 rfl (row_mono r1 D1.size)
          clear HST HCL HC6 r1 b1 m0 m1 m2 k0 k1 k2
          go_wp2
          go_roundw
          case rel => exact ⟨j + 1, _, by go_num, by omega, HN⟩
          case measure => simp [intOf]; omega
      · obtain rfl : j = H.objs.length := by omega
        have HE : Hid (HM wr W.heap.size ⟨x0, c0, fs, x1, H.weaks.length, c1, x2, H.buffer.length, c2, x3, H.sites.length, c3⟩ H) := di_end HI.out
        have HX : Hid (Four wr g (.slice x0 H.objs.length c0) (.slice x1 H.weaks.length c1) (.slice x2 H.buffer.length c2) (.slice x3 H.sites.length c3)) := HI.out.x
        have HB1 : Hid (Below W.heap.size W wr) := HI.out.bel
        have y3 := HX.out.cell 3
        simp only [List.getElem?_toArray, List.getElem?_cons_zero, List.getElem?_cons_succ] at y3
        clear HI
        obtain ⟨Z, hZ⟩ : ∃ Z, Z = wr := ⟨_, rfl⟩
        rw [← hZ] at HE HX HB1 y3 ⊢
        clear hZ hbs hgl
        go_wp2
        clear y3
        go_loopw [41] (fun i wr => ∃ j : Nat, i = .int .i64 (j : Int) ∧ j ≤ H.sites.length ∧ Hid (HM wr W.heap.size ⟨x0, c0, fs, x1, H.weaks.length, c1, x2, H.buffer.length, c2, x3, H.sites.length, c3⟩ H) ∧ Hid (Four wr g (.slice x0 H.objs.length c0) (.slice x1 H.weaks.length c1) (.slice x2 H.buffer.length c2) (.slice x3 H.sites.length c3)) ∧ Hid (Below W.heap.size W wr)) (fun i _ => H.sites.length - (intOf i).toNat)
        case atStart => exact ⟨0, rfl, Nat.zero_le _, HE, HX, HB1⟩
        case round =>
          clear HE HX HB1
          obtain ⟨j, rfl, hjs, HE, HX, HB1⟩ := hrel
          have hbs := HB1.out.size
          have hgl := HX.out.lt
          by_cases hlt : j < H.sites.length
          · obtain ⟨gs, off, rfl, hgs, hcs⟩ := (hm_parts HE.out).2.2.2 j hlt
            have hoff : off = 0 := by
              rcases ownS_form HE.out.st with ⟨e, _⟩ | ⟨g2, cap, e, _⟩
              · simp only [Value.slice.injEq] at e; exact absurd e.1 (by simp)
              · simp only [Value.slice.injEq, Option.some.injEq, Addr.mk.injEq] at e; exact e.1.2.1
            subst hoff
            rw [Nat.zero_add] at hcs
            have hnm := HNM.out _ (List.getElem_mem hlt)
            have hfz : wr.frozen? ⟨gs, j, none⟩ = false := by
              rcases ownS_form HE.out.st with ⟨e, _⟩ | ⟨g2, cap, e, _, _, _, _, hc⟩
              · simp only [Value.slice.injEq] at e; exact absurd e.1 (by simp)
              · simp only [Value.slice.injEq, Option.some.injEq, Addr.mk.injEq] at e
                rw [e.1.1]; exact (hc.out j hlt).2
            have hgg : gs ≠ g := by
              obtain ⟨cur, hk⟩ := row_kind HE.out.st gs rfl
              exact kind_ne hk HX.out (by decide)
            have HN : Hid (∀ w1, Below wr.heap.size wr w1 → HM (w1.setCell ⟨gs, j, none⟩ (.string (txt H.sites[j]))) W.heap.size _ H ∧ Four (w1.setCell ⟨gs, j, none⟩ (.string (txt H.sites[j]))) g (.slice x0 H.objs.length c0) (.slice x1 H.weaks.length c1) (.slice x2 H.buffer.length c2) (.slice (some ⟨gs, 0, none⟩) H.sites.length c3) ∧ Below W.heap.size W (w1.setCell ⟨gs, j, none⟩ (.string (txt H.sites[j])))) := fun w1 b1 =>
              ⟨hm_site (hm_later HE.out b1) j hlt gs rfl, (HX.out.later b1).same (heap_setCell_other _ _ _ _ (by exact fun e => hgg e.symm)), (HB1.out.trans (b1.mono hbs)).setCell (by exact (ownS_lt HE.out.st gs rfl).1) _⟩
            have HC6 : Hid (∀ X, Below wr.heap.size wr X → X.cell? ⟨g, 3, none⟩ = some (.slice (some ⟨gs, 0, none⟩) H.sites.length c3) ∧ X.cell? ⟨gs, j, none⟩ = some (.string (txt H.sites[j])) ∧ X.frozen? ⟨gs, j, none⟩ = false) := fun X hX =>
              ⟨(hX.cell (p := ⟨g, 3, none⟩) hgl).trans (HX.out.cell 3), (hX.cell (p := ⟨gs, j, none⟩) hgs).trans hcs, (hX.frozen (p := ⟨gs, j, none⟩) hgs).trans hfz⟩
            have HCL : Hid (∀ X : World, _) := fun X => strClone_calls (txt H.sites[j]) X (by rw [txt_size]; omega)
            generalize txt H.sites[j] = tx at HCL HC6 HN
            clear hcs hfz HE HX HB1 hnm
            have D1 : Below wr.heap.size wr wr.drew := (Below.refl _ _).drew
            obtain ⟨k0, k1, k2⟩ := HC6.out _ (Below.refl _ _)
            have hi0 : (0 : Int) ≤ (j : Int) := by omega
            have hi1 : (j : Int) < (H.sites.length : Int) := by omega
            go_wp2
            go_region_held (fun X => X.cell? ⟨g, 3, none⟩ = some (.slice (some ⟨gs, 0, none⟩) H.sites.length c3) ∧ X.cell? ⟨gs, j, none⟩ = some (.string tx))
              (first | exact ⟨(HC6.out _ B1).1, (HC6.out _ B1).2.1⟩ | exact ⟨(HC6.out _ D1).1, (HC6.out _ D1).2.1⟩ | exact ⟨(keep_far _ _ (by exact hgg) 3).trans (HC6.out _ B1).1, World.cell?_setCell_same _ _ _ (HC6.out _ B1).2.1⟩)
              (first | (go_at_call 23; refine (HCL.out _).mono ?_; rintro e w1 ⟨rfl, b1⟩; (have B1 := D1.trans (b1.mono D1.size)); (obtain ⟨m0, m1, m2⟩ := HC6.out _ B1)))
            obtain ⟨n1, n2, n3⟩ := HN.out w1 B1
            have HN1 : Hid _ := n1
            have HN2 : Hid _ := n2
            have HN3 : Hid _ := n3
            clear HN HCL HC6 b1 m0 m1 m2 k0 k1 k2 n1 n2 n3
            go_wp2
            go_roundw
            case rel => exact ⟨j + 1, by go_num, by omega, HN1, HN2, HN3⟩
            case measure => simp [intOf]; omega
          · have XF := HX.out
            have RF2 : Four wr (w.heap.size + 1) (.slice none 0 0) (.slice none 0 0) (.slice none 0 0) (.slice none 0 0) := (HB1.out.block (w.heap.size + 1) (by omega)).trans HFR.out
            have q0 := XF.cell 0
            have q1 := XF.cell 1
            have q2 := XF.cell 2
            have q3 := XF.cell 3
            have r0 := RF2.cell 0
            have r1 := RF2.cell 1
            have r2 := RF2.cell 2
            have r3 := RF2.cell 3
            have z0 := RF2.frozen 0
            have z1 := RF2.frozen 1
            have z2 := RF2.frozen 2
            have z3 := RF2.frozen 3
            simp only [List.getElem?_toArray, List.getElem?_cons_zero, List.getElem?_cons_succ] at q0 q1 q2 q3 r0 r1 r2 r3
            have HBl : Hid (Below w.heap.size w wr) := HBW.out.trans (HB1.out.mono HBW.out.size)
            have HLO : Hid (fs.length = H.objs.length) := HE.out.lo
            clear XF RF2 HX HB1
            go_wp2
            refine bodyPost_ret (v := .agg #[.slice x0 H.objs.length c0, .slice x1 H.weaks.length c1, .slice x2 H.buffer.length c2, .slice x3 H.sites.length c3]) (by simp [results, Try.results14, go_sem, *]) rfl ⟨⟨x0, c0, fs, x1, H.weaks.length, c1, x2, H.buffer.length, c2, x3, H.sites.length, c3⟩, ?_, ?_, ?_⟩
            · rw [HSh.v, HLO.out]
            · refine hm_mono (hm_keepB HE.out ?_) (by omega)
              refine (((keepB_set _ _ ⟨w.heap.size + 1, 0, none⟩ _ (by simp only; omega)).trans (keepB_set _ _ ⟨w.heap.size + 1, 1, none⟩ _ (by simp only; omega))).trans (keepB_set _ _ ⟨w.heap.size + 1, 2, none⟩ _ (by simp only; omega))).trans (keepB_set _ _ ⟨w.heap.size + 1, 3, none⟩ _ (by simp only; omega))
            · iterate 4 refine Below.setCell ?_ (by simp only; omega) _
              exact HBl.out

end Go.Proofs.Ytjhdnachbahbmaa
