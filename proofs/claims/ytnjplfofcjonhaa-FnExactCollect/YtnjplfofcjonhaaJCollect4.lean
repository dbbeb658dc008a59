/- Texts of this claim, joined: part 4 of 6. -/
import Derived.Test.YtnjplfofcjonhaaJCollect3
import Derived.Shelf.Strconv.Clone
import Derived.Laws.CopyOwn
import Derived.Test.YtnjplfofcjonhaaShelf
namespace Go.Proofs.Ytnjplfofcjonhaa
open Go.RowKit
set_option linter.unusedVariables false
set_option maxRecDepth 100000
def RU (B : Nat) (p0 s1 p3 s4 : Value) (xs ys : List Int) : Nat → World → Value → Prop
  | 0, _, v => v = p0
  | 1, _, v => v = s1
  | 2, X, v => ownI X B v xs
  | 3, _, v => v = p3
  | 4, _, v => v = s4
  | 5, X, v => ownI X B v ys
  | 6, X, v => ∃ x1 c1 x2 c2, v = .agg #[.slice x1 xs.length c1, .slice x2 ys.length c2] ∧ ownI X B (.slice x1 xs.length c1) xs ∧ ownI X B (.slice x2 ys.length c2) ys ∧ Dif2 (.slice x1 xs.length c1) (.slice x2 ys.length c2)
  | _, _, _ => True
def famU : Nat → Nat
  | 2 => 1
  | 5 => 2
  | _ => 0
def DU (i j : Nat) (u v : Value) : Prop := famU i ≠ 0 → famU j ≠ 0 → famU i ≠ famU j → Dif2 u v
theorem ru_mono {B : Nat} {p0 s1 p3 s4 : Value} {xs ys : List Int} (i : Nat) (X Y : World) (v : Value) (h : RU B p0 s1 p3 s4 xs ys i X v) (hb : Below X.heap.size X Y) : RU B p0 s1 p3 s4 xs ys i Y v := by
  match i, h with
  | 0, h => exact h
  | 1, h => exact h
  | 2, h => exact ownI_later h hb
  | 3, h => exact h
  | 4, h => exact h
  | 5, h => exact ownI_later h hb
  | 6, ⟨x1, c1, x2, c2, h1, h2, h3, h4⟩ => exact ⟨x1, c1, x2, c2, h1, ownI_later h2 hb, ownI_later h3 hb, h4⟩
  | n + 7, _ => exact trivial
theorem du_no {i j : Nat} {u v : Value} (hi : famU i = 0) : DU i j u v ∧ DU j i v u := ⟨fun h => absurd hi h, fun _ h => absurd hi h⟩
theorem du_new {B : Nat} {p0 s1 p3 s4 : Value} {xs ys zs : List Int} {i j : Nat} {X Y : World} {u v : Value} (h : RU B p0 s1 p3 s4 xs ys j X v) (hu : ownI Y X.heap.size u zs) : DU i j u v ∧ DU j i v u := by
  have key : famU j ≠ 0 → Dif2 u v := fun hj g h1 h2 => by
    have hg := (ownI_lt hu g h1).1
    have hl : g < X.heap.size := by
      match j, h, hj with
      | 2, h, _ => exact (ownI_lt h g h2).2
      | 5, h, _ => exact (ownI_lt h g h2).2
      | 0, _, hf => exact absurd rfl hf
      | 1, _, hf => exact absurd rfl hf
      | 3, _, hf => exact absurd rfl hf
      | 4, _, hf => exact absurd rfl hf
      | 6, _, hf => exact absurd rfl hf
      | n + 7, _, hf => exact absurd rfl hf
    omega
  exact ⟨fun _ hj _ => key hj, fun hj _ _ => (key hj).symm⟩
theorem clone_calls (w : World) (a : Option Addr) (c : Nat) (zs : List Int) (hr : RdI w a zs) (hm : zs.length ≤ 16777216) :
    Calls Try.prog 36 #[.slice a zs.length c] w fun e w' => ∃ x, e = .returned x ∧ ownI w' w.heap.size x zs ∧ Below w.heap.size w w' := cloneI_calls w a zs.length c (zs.map intV) (srcI hr) hm
set_option maxHeartbeats 8000000 in
theorem iTried_no (v u f : Value) (H : HeapD) (T : TrialD) (slot : Int) (w : World) (h : RdH w v H) (ht : RdT w u T) (hs : SmallH H) (hst : SmallT T) (hno : ¬ OkT H T slot) :
    Calls Try.prog 109 #[v, u, .int .i64 slot, f] w fun e w' => ∃ s : TSh, e = .returned s.v ∧ TM w' w.heap.size s T ∧ Below w.heap.size w w' := by
  have HRH : Hid (∀ X, Below w.heap.size w X → RdH X v H) := fun X hX => rdH_later h hX
  obtain ⟨ao, co, aw, cw, ab, cb, sa, sc, rfl, -, -, -, -⟩ := h
  obtain ⟨xa, xc, ya, yc, rfl, r1, r2⟩ := ht
  have l0 := hs.objs
  have l1 := hst.counts
  have l2 := hst.colors
  generalize H.weaks.length = nw at *
  generalize H.buffer.length = nb at *
  generalize H.sites.length = ns at *
  have HCX : Hid (∀ X, Below w.heap.size w X → _) := fun X hX => clone_calls X xa xc T.counts (rdI_later r1 hX) (by omega)
  have HCY : Hid (∀ X, Below w.heap.size w X → _) := fun X hX => clone_calls X ya yc T.colors (rdI_later r2 hX) (by omega)
  obtain ⟨lo, hlo⟩ : ∃ lo, H.objs.length = lo := ⟨_, rfl⟩
  obtain ⟨lx, hlx⟩ : ∃ lx, T.counts.length = lx := ⟨_, rfl⟩
  obtain ⟨ly, hly⟩ : ∃ ly, T.colors.length = ly := ⟨_, rfl⟩
  have HLO : Hid (H.objs.length = lo) := hlo
  have HLX : Hid (T.counts.length = lx) := hlx
  have HLY : Hid (T.colors.length = ly) := hly
  rw [hlx] at HCX
  rw [hly] at HCY
  rw [hlo, hlx, hly]
  rw [hlo] at l0 HRH
  rw [hlx] at l1
  rw [hly] at l2
  clear hlo hlx hly
  obtain ⟨W, hW⟩ : ∃ W, W = ((w.alloc (.cells #[.slice ao lo co, .slice aw nw cw, .slice ab nb cb, .slice sa ns sc] 29)).alloc (.cells #[.slice xa lx xc, .slice ya ly yc] 77)).alloc (.cells #[.slice none 0 0, .slice none 0 0] 77) := ⟨_, rfl⟩
  have BW : Below w.heap.size w W := by rw [hW]; exact (((Below.refl _ _).alloc (Nat.le_refl _) _).alloc (by simp) _).alloc (by simp; omega) _
  have hWs : W.heap.size = w.heap.size + 3 := by rw [hW]; simp
  have FH : Four W w.heap.size (.slice ao lo co) (.slice aw nw cw) (.slice ab nb cb) (.slice sa ns sc) := by
    have f := Four.new w (.slice ao lo co) (.slice aw nw cw) (.slice ab nb cb) (.slice sa ns sc)
    have f2 := f.later ((Below.refl _ _).alloc (Nat.le_refl _) (.cells #[.slice xa lx xc, .slice ya ly yc] 77))
    have f3 := f2.later ((Below.refl _ _).alloc (Nat.le_refl _) (.cells #[.slice none 0 0, .slice none 0 0] 77))
    rw [hW]; exact f3
  have FP : Two W (w.heap.size + 1) (.slice xa lx xc) (.slice ya ly yc) := by
    have f := Two.new (w.alloc (.cells #[.slice ao lo co, .slice aw nw cw, .slice ab nb cb, .slice sa ns sc] 29)) (.slice xa lx xc) (.slice ya ly yc)
    have f2 := f.later ((Below.refl _ _).alloc (Nat.le_refl _) (.cells #[.slice none 0 0, .slice none 0 0] 77)) (by simp)
    rw [← hW] at f2
    simpa using f2
  have FR : Two W (w.heap.size + 2) (.slice none 0 0) (.slice none 0 0) := by
    have f := Two.new ((w.alloc (.cells #[.slice ao lo co, .slice aw nw cw, .slice ab nb cb, .slice sa ns sc] 29)).alloc (.cells #[.slice xa lx xc, .slice ya ly yc] 77)) (.slice none 0 0) (.slice none 0 0)
    rw [← hW] at f
    simpa using f
  have HG1 : Hid (w.heap.size + 1 < W.heap.size) := by show _ < _; omega
  have HGR : Hid (w.heap.size + 2 < W.heap.size) := by show _ < _; omega
  by_cases h0 : lo = 8
  · subst h0
    by_cases h1 : lx = 8
    · subst h1
      by_cases h2 : ly = 8
      · subst h2
        have hnl : NoLive H slot := by
          by_cases a1 : slot < 0
          · exact .inl a1
          by_cases a2 : 8 ≤ slot
          · exact .inr (.inl a2)
          refine .inr (.inr fun o ho => ?_)
          cases hv : o.live with
          | false => rfl
          | true => exact absurd ⟨HLO.out, HLX.out, HLY.out, by omega, by omega, o, ho, hv⟩ hno
        have CL : Hid (∀ X, Below w.heap.size w X → _) := fun X hX => liveIn_no _ H slot X (HRH.out X hX) (by rw [HLO.out]; omega) hnl
        have BWb0 := BW
        have FPb0 := FP
        have FRb0 := FR
        have HWs : Hid (W.heap.size = w.heap.size + 3) := hWs
        clear HRH hno FH hWs hnl
        go_enter Try.func109, Try.ntmps109
        go_wp2_with fail
        rw [← hW]
        clear hW
        refine (CL.out _ BW).mono ?_
        rintro e Wb ⟨rfl, bb⟩
        have BWb := BW.trans (bb.mono BW.size)
        have FPb := FP.later bb HG1.out
        have FRb := FR.later bb HGR.out
        have hbs := bb.size
        have HG1b : Hid (w.heap.size + 1 < Wb.heap.size) := Nat.lt_of_lt_of_le HG1.out hbs
        have HGRb : Hid (w.heap.size + 2 < Wb.heap.size) := Nat.lt_of_lt_of_le HGR.out hbs
        clear HG1 HGR
        have HG1 : Hid (w.heap.size + 1 < Wb.heap.size) := HG1b
        have HGR : Hid (w.heap.size + 2 < Wb.heap.size) := HGRb
        clear HG1b HGRb BW FP FR BWb0 FPb0 FRb0 CL bb
        go_wp2
        have HBW : Hid (Below w.heap.size w Wb) := BWb
        have HFP : Hid (∀ X, Below Wb.heap.size Wb X → Two X (w.heap.size + 1) (.slice xa 8 xc) (.slice ya 8 yc)) := fun X hX => FPb.later hX HG1.out
        have HRES : Hid (Two Wb (w.heap.size + 2) (.slice none 0 0) (.slice none 0 0)) := FRb
        have HCXb : Hid (∀ X, Below Wb.heap.size Wb X → _) := fun X hX => HCX.out X (HBW.out.trans (hX.mono HBW.out.size))
        have HCYb : Hid (∀ X, Below Wb.heap.size Wb X → _) := fun X hX => HCY.out X (HBW.out.trans (hX.mono HBW.out.size))
        clear BWb FPb FRb
        refine wp_region_pair 7 (by kernel_rfl) (by kernel_rfl) (RU Wb.heap.size (.pointer (some ⟨w.heap.size + 1, 0, none⟩)) (.slice xa 8 xc) (.pointer (some ⟨w.heap.size + 1, 1, none⟩)) (.slice ya 8 yc) T.counts T.colors) DU ru_mono ?_ ?_
        · intro i o hi ho a X hX hA dn hbn hdep
          have hXs := hX.size
          match i, hi, ho with
          | 0, _, ho =>
            obtain rfl := Option.some.inj ho
            exact opFieldT 0 (by omega) (alike_at hA (t := 5) (by kernel_rfl)) ⟨_, rfl, Below.refl _ _, rfl, fun j hj _ t ht => du_no rfl⟩
          | 1, _, ho =>
            obtain rfl := Option.some.inj ho
            have e1 : a.eval (.tmp 32) = (.pointer (some ⟨w.heap.size + 1, 0, none⟩)) := hbn.yields 0 (hdep ⟨0, .data⟩ (by simp) rfl) 32 rfl
            exact opLoadI e1 ((HFP.out X hX).cell 0) ⟨_, rfl, Below.refl _ _, rfl, fun j hj _ t ht => du_no rfl⟩
          | 2, _, ho =>
            obtain rfl := Option.some.inj ho
            have e1 : a.eval (.tmp 33) = (.slice xa 8 xc) := hbn.yields 1 (hdep ⟨1, .data⟩ (by simp) rfl) 33 rfl
            refine opCloneI e1 (HCXb.out X hX) ?_
            rintro e w' ⟨x, rfl, hx, hb⟩
            exact ⟨x, rfl, ⟨_, rfl, hb, ownI_mono hx hXs, fun j hj _ t ht => du_new (hbn.yields j hj t ht) hx⟩⟩
          | 3, _, ho =>
            obtain rfl := Option.some.inj ho
            exact opFieldT 1 (by omega) (alike_at hA (t := 5) (by kernel_rfl)) ⟨_, rfl, Below.refl _ _, rfl, fun j hj _ t ht => du_no rfl⟩
          | 4, _, ho =>
            obtain rfl := Option.some.inj ho
            have e1 : a.eval (.tmp 35) = (.pointer (some ⟨w.heap.size + 1, 1, none⟩)) := hbn.yields 3 (hdep ⟨3, .data⟩ (by simp) rfl) 35 rfl
            exact opLoadI e1 ((HFP.out X hX).cell 1) ⟨_, rfl, Below.refl _ _, rfl, fun j hj _ t ht => du_no rfl⟩
          | 5, _, ho =>
            obtain rfl := Option.some.inj ho
            have e1 : a.eval (.tmp 36) = (.slice ya 8 yc) := hbn.yields 4 (hdep ⟨4, .data⟩ (by simp) rfl) 36 rfl
            refine opCloneI e1 (HCYb.out X hX) ?_
            rintro e w' ⟨x, rfl, hx, hb⟩
            exact ⟨x, rfl, ⟨_, rfl, hb, ownI_mono hx hXs, fun j hj _ t ht => du_new (hbn.yields j hj t ht) hx⟩⟩
          | 6, _, ho =>
            obtain rfl := Option.some.inj ho
            have d2 := hdep ⟨2, .data⟩ (by simp) rfl
            have d5 := hdep ⟨5, .data⟩ (by simp) rfl
            have q1 : ownI X Wb.heap.size (a.eval (.tmp 34)) T.counts := hbn.yields 2 d2 34 rfl
            have q2 : ownI X Wb.heap.size (a.eval (.tmp 37)) T.colors := hbn.yields 5 d5 37 rfl
            have q3 : Dif2 (a.eval (.tmp 34)) (a.eval (.tmp 37)) := hbn.pairs 2 5 d2 d5 (by decide) 34 37 rfl rfl (by decide) (by decide) (by decide)
            obtain ⟨x1, c1, e1, -⟩ := rdI_own q1
            obtain ⟨x2, c2, e2, -⟩ := rdI_own q2
            rw [e1] at q1 q3
            rw [e2] at q2 q3
            exact opBuild2 e1 e2 ⟨_, rfl, Below.refl _ _, ⟨x1, c1, x2, c2, rfl, q1, q2, q3⟩, fun j hj _ t ht => du_no rfl⟩
        · intro o ho a X hX hA dn hbn hdn
          obtain rfl := Option.some.inj ho
          obtain ⟨x1, c1, x2, c2, e2, q1, q2, q3⟩ := hbn.yields 6 (hdn 6 (by omega)) 38 rfl
          have e1 : a.eval (.tmp 8) = .pointer (some ⟨w.heap.size + 2, 0, none⟩) := alike_at hA (t := 8) (by kernel_rfl)
          have hf : Two X (w.heap.size + 2) (.slice none 0 0) (.slice none 0 0) := HRES.out.later hX (HGR.out)
          refine opStoreT e1 e2 hf ?_
          obtain ⟨us, hus, rfl⟩ := alike_tmps hA [32, 33, 34, 35, 36, 37, 38] (by kernel_rfl)
          obtain ⟨k0, k1⟩ := setTwo_cell (.slice x1 (T.counts).length c1) (.slice x2 (T.colors).length c2) hf
          have HT : Hid (TM (setTwo X (w.heap.size + 2) (.slice x1 (T.counts).length c1) (.slice x2 (T.colors).length c2)) w.heap.size ⟨x1, (T.counts).length, c1, x2, (T.colors).length, c2⟩ ⟨T.counts, T.colors⟩) := by
            have ne : ∀ {v : Value} {zs : List Int}, ownI X Wb.heap.size v zs → ownI (setTwo X (w.heap.size + 2) (.slice x1 (T.counts).length c1) (.slice x2 (T.colors).length c2)) w.heap.size v zs := fun hr => ownI_mono (ownI_same hr (fun i hi => setTwo_other _ _ _ _ i (by have := (ownI_lt hr i hi).1; have := HGR.out; omega))) (Nat.le_trans HBW.out.size (Nat.le_refl _))
            exact ⟨ne q1, ne q2, q3⟩
          have HB : Hid (Below w.heap.size w (setTwo X (w.heap.size + 2) (.slice x1 (T.counts).length c1) (.slice x2 (T.colors).length c2))) := by
            unfold setTwo
            exact ((HBW.out.trans (hX.mono HBW.out.size)).setCell (by simp) _).setCell (by simp) _
          clear hbn hdn hA hus e1 e2 hf q1 q2 q3 ho
          generalize setTwo X (w.heap.size + 2) (.slice x1 (T.counts).length c1) (.slice x2 (T.colors).length c2) = Y at *
          simp only [List.mapIdx_cons, List.mapIdx_nil, Nat.reduceAdd, List.contains_cons, List.contains_nil, Nat.reduceBEq, Bool.or_false, Bool.or_true, if_true, if_false, Bool.false_eq_true]
          go_wp2
          exact bodyPost_ret (v := .agg #[.slice x1 (T.counts).length c1, .slice x2 (T.colors).length c2]) (by simp [results, Try.results109, go_sem, *]) rfl ⟨⟨x1, (T.counts).length, c1, x2, (T.colors).length, c2⟩, rfl, HT.out, HB.out⟩
      · have n2 : ¬ (ly : Int) = 8 := by omega
        obtain ⟨Wb, hWb⟩ : ∃ Wb, Wb = W := ⟨_, rfl⟩
        rw [← hWb] at BW FP FR HG1 HGR hW
        have BWb := BW
        have FPb := FP
        have FRb := FR
        clear HRH hno FH hWs
        go_enter Try.func109, Try.ntmps109
        go_wp2
        rw [← hW]
        clear hW hWb BW FP FR
        have HBW : Hid (Below w.heap.size w Wb) := BWb
        have HFP : Hid (∀ X, Below Wb.heap.size Wb X → Two X (w.heap.size + 1) (.slice xa 8 xc) (.slice ya ly yc)) := fun X hX => FPb.later hX HG1.out
        have HRES : Hid (Two Wb (w.heap.size + 2) (.slice none 0 0) (.slice none 0 0)) := FRb
        have HCXb : Hid (∀ X, Below Wb.heap.size Wb X → _) := fun X hX => HCX.out X (HBW.out.trans (hX.mono HBW.out.size))
        have HCYb : Hid (∀ X, Below Wb.heap.size Wb X → _) := fun X hX => HCY.out X (HBW.out.trans (hX.mono HBW.out.size))
        clear BWb FPb FRb
        refine wp_region_pair 7 (by kernel_rfl) (by kernel_rfl) (RU Wb.heap.size (.pointer (some ⟨w.heap.size + 1, 0, none⟩)) (.slice xa 8 xc) (.pointer (some ⟨w.heap.size + 1, 1, none⟩)) (.slice ya ly yc) T.counts T.colors) DU ru_mono ?_ ?_
        · intro i o hi ho a X hX hA dn hbn hdep
          have hXs := hX.size
          match i, hi, ho with
          | 0, _, ho =>
            obtain rfl := Option.some.inj ho
            exact opFieldT 0 (by omega) (alike_at hA (t := 5) (by kernel_rfl)) ⟨_, rfl, Below.refl _ _, rfl, fun j hj _ t ht => du_no rfl⟩
          | 1, _, ho =>
            obtain rfl := Option.some.inj ho
            have e1 : a.eval (.tmp 32) = (.pointer (some ⟨w.heap.size + 1, 0, none⟩)) := hbn.yields 0 (hdep ⟨0, .data⟩ (by simp) rfl) 32 rfl
            exact opLoadI e1 ((HFP.out X hX).cell 0) ⟨_, rfl, Below.refl _ _, rfl, fun j hj _ t ht => du_no rfl⟩
          | 2, _, ho =>
            obtain rfl := Option.some.inj ho
            have e1 : a.eval (.tmp 33) = (.slice xa 8 xc) := hbn.yields 1 (hdep ⟨1, .data⟩ (by simp) rfl) 33 rfl
            refine opCloneI e1 (HCXb.out X hX) ?_
            rintro e w' ⟨x, rfl, hx, hb⟩
            exact ⟨x, rfl, ⟨_, rfl, hb, ownI_mono hx hXs, fun j hj _ t ht => du_new (hbn.yields j hj t ht) hx⟩⟩
          | 3, _, ho =>
            obtain rfl := Option.some.inj ho
            exact opFieldT 1 (by omega) (alike_at hA (t := 5) (by kernel_rfl)) ⟨_, rfl, Below.refl _ _, rfl, fun j hj _ t ht => du_no rfl⟩
          | 4, _, ho =>
            obtain rfl := Option.some.inj ho
            have e1 : a.eval (.tmp 35) = (.pointer (some ⟨w.heap.size + 1, 1, none⟩)) := hbn.yields 3 (hdep ⟨3, .data⟩ (by simp) rfl) 35 rfl
            exact opLoadI e1 ((HFP.out X hX).cell 1) ⟨_, rfl, Below.refl _ _, rfl, fun j hj _ t ht => du_no rfl⟩
          | 5, _, ho =>
            obtain rfl := Option.some.inj ho
            have e1 : a.eval (.tmp 36) = (.slice ya ly yc) := hbn.yields 4 (hdep ⟨4, .data⟩ (by simp) rfl) 36 rfl
            refine opCloneI e1 (HCYb.out X hX) ?_
            rintro e w' ⟨x, rfl, hx, hb⟩
            exact ⟨x, rfl, ⟨_, rfl, hb, ownI_mono hx hXs, fun j hj _ t ht => du_new (hbn.yields j hj t ht) hx⟩⟩
          | 6, _, ho =>
            obtain rfl := Option.some.inj ho
            have d2 := hdep ⟨2, .data⟩ (by simp) rfl
            have d5 := hdep ⟨5, .data⟩ (by simp) rfl
            have q1 : ownI X Wb.heap.size (a.eval (.tmp 34)) T.counts := hbn.yields 2 d2 34 rfl
            have q2 : ownI X Wb.heap.size (a.eval (.tmp 37)) T.colors := hbn.yields 5 d5 37 rfl
            have q3 : Dif2 (a.eval (.tmp 34)) (a.eval (.tmp 37)) := hbn.pairs 2 5 d2 d5 (by decide) 34 37 rfl rfl (by decide) (by decide) (by decide)
            obtain ⟨x1, c1, e1, -⟩ := rdI_own q1
            obtain ⟨x2, c2, e2, -⟩ := rdI_own q2
            rw [e1] at q1 q3
            rw [e2] at q2 q3
            exact opBuild2 e1 e2 ⟨_, rfl, Below.refl _ _, ⟨x1, c1, x2, c2, rfl, q1, q2, q3⟩, fun j hj _ t ht => du_no rfl⟩
        · intro o ho a X hX hA dn hbn hdn
          obtain rfl := Option.some.inj ho
          obtain ⟨x1, c1, x2, c2, e2, q1, q2, q3⟩ := hbn.yields 6 (hdn 6 (by omega)) 38 rfl
          have e1 : a.eval (.tmp 8) = .pointer (some ⟨w.heap.size + 2, 0, none⟩) := alike_at hA (t := 8) (by kernel_rfl)
          have hf : Two X (w.heap.size + 2) (.slice none 0 0) (.slice none 0 0) := HRES.out.later hX (HGR.out)
          refine opStoreT e1 e2 hf ?_
          obtain ⟨us, hus, rfl⟩ := alike_tmps hA [32, 33, 34, 35, 36, 37, 38] (by kernel_rfl)
          obtain ⟨k0, k1⟩ := setTwo_cell (.slice x1 (T.counts).length c1) (.slice x2 (T.colors).length c2) hf
          have HT : Hid (TM (setTwo X (w.heap.size + 2) (.slice x1 (T.counts).length c1) (.slice x2 (T.colors).length c2)) w.heap.size ⟨x1, (T.counts).length, c1, x2, (T.colors).length, c2⟩ ⟨T.counts, T.colors⟩) := by
            have ne : ∀ {v : Value} {zs : List Int}, ownI X Wb.heap.size v zs → ownI (setTwo X (w.heap.size + 2) (.slice x1 (T.counts).length c1) (.slice x2 (T.colors).length c2)) w.heap.size v zs := fun hr => ownI_mono (ownI_same hr (fun i hi => setTwo_other _ _ _ _ i (by have := (ownI_lt hr i hi).1; have := HGR.out; omega))) (Nat.le_trans HBW.out.size (Nat.le_refl _))
            exact ⟨ne q1, ne q2, q3⟩
          have HB : Hid (Below w.heap.size w (setTwo X (w.heap.size + 2) (.slice x1 (T.counts).length c1) (.slice x2 (T.colors).length c2))) := by
            unfold setTwo
            exact ((HBW.out.trans (hX.mono HBW.out.size)).setCell (by simp) _).setCell (by simp) _
          clear hbn hdn hA hus e1 e2 hf q1 q2 q3 ho
          generalize setTwo X (w.heap.size + 2) (.slice x1 (T.counts).length c1) (.slice x2 (T.colors).length c2) = Y at *
          simp only [List.mapIdx_cons, List.mapIdx_nil, Nat.reduceAdd, List.contains_cons, List.contains_nil, Nat.reduceBEq, Bool.or_false, Bool.or_true, if_true, if_false, Bool.false_eq_true]
          go_wp2
          exact bodyPost_ret (v := .agg #[.slice x1 (T.counts).length c1, .slice x2 (T.colors).length c2]) (by simp [results, Try.results109, go_sem, *]) rfl ⟨⟨x1, (T.counts).length, c1, x2, (T.colors).length, c2⟩, rfl, HT.out, HB.out⟩
    · have n1 : ¬ (lx : Int) = 8 := by omega
      obtain ⟨Wb, hWb⟩ : ∃ Wb, Wb = W := ⟨_, rfl⟩
      rw [← hWb] at BW FP FR HG1 HGR hW
      have BWb := BW
      have FPb := FP
      have FRb := FR
      clear HRH hno FH hWs
      go_enter Try.func109, Try.ntmps109
      go_wp2
      rw [← hW]
      clear hW hWb BW FP FR
      have HBW : Hid (Below w.heap.size w Wb) := BWb
      have HFP : Hid (∀ X, Below Wb.heap.size Wb X → Two X (w.heap.size + 1) (.slice xa lx xc) (.slice ya ly yc)) := fun X hX => FPb.later hX HG1.out
      have HRES : Hid (Two Wb (w.heap.size + 2) (.slice none 0 0) (.slice none 0 0)) := FRb
      have HCXb : Hid (∀ X, Below Wb.heap.size Wb X → _) := fun X hX => HCX.out X (HBW.out.trans (hX.mono HBW.out.size))
      have HCYb : Hid (∀ X, Below Wb.heap.size Wb X → _) := fun X hX => HCY.out X (HBW.out.trans (hX.mono HBW.out.size))
      clear BWb FPb FRb
      refine wp_region_pair 7 (by kernel_rfl) (by kernel_rfl) (RU Wb.heap.size (.pointer (some ⟨w.heap.size + 1, 0, none⟩)) (.slice xa lx xc) (.pointer (some ⟨w.heap.size + 1, 1, none⟩)) (.slice ya ly yc) T.counts T.colors) DU ru_mono ?_ ?_
      · intro i o hi ho a X hX hA dn hbn hdep
        have hXs := hX.size
        match i, hi, ho with
        | 0, _, ho =>
          obtain rfl := Option.some.inj ho
          exact opFieldT 0 (by omega) (alike_at hA (t := 5) (by kernel_rfl)) ⟨_, rfl, Below.refl _ _, rfl, fun j hj _ t ht => du_no rfl⟩
        | 1, _, ho =>
          obtain rfl := Option.some.inj ho
          have e1 : a.eval (.tmp 32) = (.pointer (some ⟨w.heap.size + 1, 0, none⟩)) := hbn.yields 0 (hdep ⟨0, .data⟩ (by simp) rfl) 32 rfl
          exact opLoadI e1 ((HFP.out X hX).cell 0) ⟨_, rfl, Below.refl _ _, rfl, fun j hj _ t ht => du_no rfl⟩
        | 2, _, ho =>
          obtain rfl := Option.some.inj ho
          have e1 : a.eval (.tmp 33) = (.slice xa lx xc) := hbn.yields 1 (hdep ⟨1, .data⟩ (by simp) rfl) 33 rfl
          refine opCloneI e1 (HCXb.out X hX) ?_
          rintro e w' ⟨x, rfl, hx, hb⟩
          exact ⟨x, rfl, ⟨_, rfl, hb, ownI_mono hx hXs, fun j hj _ t ht => du_new (hbn.yields j hj t ht) hx⟩⟩
        | 3, _, ho =>
          obtain rfl := Option.some.inj ho
          exact opFieldT 1 (by omega) (alike_at hA (t := 5) (by kernel_rfl)) ⟨_, rfl, Below.refl _ _, rfl, fun j hj _ t ht => du_no rfl⟩
        | 4, _, ho =>
          obtain rfl := Option.some.inj ho
          have e1 : a.eval (.tmp 35) = (.pointer (some ⟨w.heap.size + 1, 1, none⟩)) := hbn.yields 3 (hdep ⟨3, .data⟩ (by simp) rfl) 35 rfl
          exact opLoadI e1 ((HFP.out X hX).cell 1) ⟨_, rfl, Below.refl _ _, rfl, fun j hj _ t ht => du_no rfl⟩
        | 5, _, ho =>
          obtain rfl := Option.some.inj ho
          have e1 : a.eval (.tmp 36) = (.slice ya ly yc) := hbn.yields 4 (hdep ⟨4, .data⟩ (by simp) rfl) 36 rfl
          refine opCloneI e1 (HCYb.out X hX) ?_
          rintro e w' ⟨x, rfl, hx, hb⟩
          exact ⟨x, rfl, ⟨_, rfl, hb, ownI_mono hx hXs, fun j hj _ t ht => du_new (hbn.yields j hj t ht) hx⟩⟩
        | 6, _, ho =>
          obtain rfl := Option.some.inj ho
          have d2 := hdep ⟨2, .data⟩ (by simp) rfl
          have d5 := hdep ⟨5, .data⟩ (by simp) rfl
          have q1 : ownI X Wb.heap.size (a.eval (.tmp 34)) T.counts := hbn.yields 2 d2 34 rfl
          have q2 : ownI X Wb.heap.size (a.eval (.tmp 37)) T.colors := hbn.yields 5 d5 37 rfl
          have q3 : Dif2 (a.eval (.tmp 34)) (a.eval (.tmp 37)) := hbn.pairs 2 5 d2 d5 (by decide) 34 37 rfl rfl (by decide) (by decide) (by decide)
          obtain ⟨x1, c1, e1, -⟩ := rdI_own q1
          obtain ⟨x2, c2, e2, -⟩ := rdI_own q2
          rw [e1] at q1 q3
          rw [e2] at q2 q3
          exact opBuild2 e1 e2 ⟨_, rfl, Below.refl _ _, ⟨x1, c1, x2, c2, rfl, q1, q2, q3⟩, fun j hj _ t ht => du_no rfl⟩
      · intro o ho a X hX hA dn hbn hdn
        obtain rfl := Option.some.inj ho
        obtain ⟨x1, c1, x2, c2, e2, q1, q2, q3⟩ := hbn.yields 6 (hdn 6 (by omega)) 38 rfl
        have e1 : a.eval (.tmp 8) = .pointer (some ⟨w.heap.size + 2, 0, none⟩) := alike_at hA (t := 8) (by kernel_rfl)
        have hf : Two X (w.heap.size + 2) (.slice none 0 0) (.slice none 0 0) := HRES.out.later hX (HGR.out)
        refine opStoreT e1 e2 hf ?_
        obtain ⟨us, hus, rfl⟩ := alike_tmps hA [32, 33, 34, 35, 36, 37, 38] (by kernel_rfl)
        obtain ⟨k0, k1⟩ := setTwo_cell (.slice x1 (T.counts).length c1) (.slice x2 (T.colors).length c2) hf
        have HT : Hid (TM (setTwo X (w.heap.size + 2) (.slice x1 (T.counts).length c1) (.slice x2 (T.colors).length c2)) w.heap.size ⟨x1, (T.counts).length, c1, x2, (T.colors).length, c2⟩ ⟨T.counts, T.colors⟩) := by
          have ne : ∀ {v : Value} {zs : List Int}, ownI X Wb.heap.size v zs → ownI (setTwo X (w.heap.size + 2) (.slice x1 (T.counts).length c1) (.slice x2 (T.colors).length c2)) w.heap.size v zs := fun hr => ownI_mono (ownI_same hr (fun i hi => setTwo_other _ _ _ _ i (by have := (ownI_lt hr i hi).1; have := HGR.out; omega))) (Nat.le_trans HBW.out.size (Nat.le_refl _))
          exact ⟨ne q1, ne q2, q3⟩
        have HB : Hid (Below w.heap.size w (setTwo X (w.heap.size + 2) (.slice x1 (T.counts).length c1) (.slice x2 (T.colors).length c2))) := by
          unfold setTwo
          exact ((HBW.out.trans (hX.mono HBW.out.size)).setCell (by simp) _).setCell (by simp) _
        clear hbn hdn hA hus e1 e2 hf q1 q2 q3 ho
        generalize setTwo X (w.heap.size + 2) (.slice x1 (T.counts).length c1) (.slice x2 (T.colors).length c2) = Y at *
        simp only [List.mapIdx_cons, List.mapIdx_nil, Nat.reduceAdd, List.contains_cons, List.contains_nil, Nat.reduceBEq, Bool.or_false, Bool.or_true, if_true, if_false, Bool.false_eq_true]
        go_wp2
        exact bodyPost_ret (v := .agg #[.slice x1 (T.counts).length c1, .slice x2 (T.colors).length c2]) (by simp [results, Try.results109, go_sem, *]) rfl ⟨⟨x1, (T.counts).length, c1, x2, (T.colors).length, c2⟩, rfl, HT.out, HB.out⟩
  · have n0 : ¬ (lo : Int) = 8 := by omega
    obtain ⟨Wb, hWb⟩ : ∃ Wb, Wb = W := ⟨_, rfl⟩
    rw [← hWb] at BW FP FR HG1 HGR hW
    have BWb := BW
    have FPb := FP
    have FRb := FR
    clear HRH hno FH hWs
    go_enter Try.func109, Try.ntmps109
    go_wp2
    rw [← hW]
    clear hW hWb BW FP FR
    have HBW : Hid (Below w.heap.size w Wb) := BWb
    have HFP : Hid (∀ X, Below Wb.heap.size Wb X → Two X (w.heap.size + 1) (.slice xa lx xc) (.slice ya ly yc)) := fun X hX => FPb.later hX HG1.out
    have HRES : Hid (Two Wb (w.heap.size + 2) (.slice none 0 0) (.slice none 0 0)) := FRb
    have HCXb : Hid (∀ X, Below Wb.heap.size Wb X → _) := fun X hX => HCX.out X (HBW.out.trans (hX.mono HBW.out.size))
    have HCYb : Hid (∀ X, Below Wb.heap.size Wb X → _) := fun X hX => HCY.out X (HBW.out.trans (hX.mono HBW.out.size))
    clear BWb FPb FRb
    refine wp_region_pair 7 (by kernel_rfl) (by kernel_rfl) (RU Wb.heap.size (.pointer (some ⟨w.heap.size + 1, 0, none⟩)) (.slice xa lx xc) (.pointer (some ⟨w.heap.size + 1, 1, none⟩)) (.slice ya ly yc) T.counts T.colors) DU ru_mono ?_ ?_
    · intro i o hi ho a X hX hA dn hbn hdep
      have hXs := hX.size
      match i, hi, ho with
      | 0, _, ho =>
        obtain rfl := Option.some.inj ho
        exact opFieldT 0 (by omega) (alike_at hA (t := 5) (by kernel_rfl)) ⟨_, rfl, Below.refl _ _, rfl, fun j hj _ t ht => du_no rfl⟩
      | 1, _, ho =>
        obtain rfl := Option.some.inj ho
        have e1 : a.eval (.tmp 32) = (.pointer (some ⟨w.heap.size + 1, 0, none⟩)) := hbn.yields 0 (hdep ⟨0, .data⟩ (by simp) rfl) 32 rfl
        exact opLoadI e1 ((HFP.out X hX).cell 0) ⟨_, rfl, Below.refl _ _, rfl, fun j hj _ t ht => du_no rfl⟩
      | 2, _, ho =>
        obtain rfl := Option.some.inj ho
        have e1 : a.eval (.tmp 33) = (.slice xa lx xc) := hbn.yields 1 (hdep ⟨1, .data⟩ (by simp) rfl) 33 rfl
        refine opCloneI e1 (HCXb.out X hX) ?_
        rintro e w' ⟨x, rfl, hx, hb⟩
        exact ⟨x, rfl, ⟨_, rfl, hb, ownI_mono hx hXs, fun j hj _ t ht => du_new (hbn.yields j hj t ht) hx⟩⟩
      | 3, _, ho =>
        obtain rfl := Option.some.inj ho
        exact opFieldT 1 (by omega) (alike_at hA (t := 5) (by kernel_rfl)) ⟨_, rfl, Below.refl _ _, rfl, fun j hj _ t ht => du_no rfl⟩
      | 4, _, ho =>
        obtain rfl := Option.some.inj ho
        have e1 : a.eval (.tmp 35) = (.pointer (some ⟨w.heap.size + 1, 1, none⟩)) := hbn.yields 3 (hdep ⟨3, .data⟩ (by simp) rfl) 35 rfl
        exact opLoadI e1 ((HFP.out X hX).cell 1) ⟨_, rfl, Below.refl _ _, rfl, fun j hj _ t ht => du_no rfl⟩
      | 5, _, ho =>
        obtain rfl := Option.some.inj ho
        have e1 : a.eval (.tmp 36) = (.slice ya ly yc) := hbn.yields 4 (hdep ⟨4, .data⟩ (by simp) rfl) 36 rfl
        refine opCloneI e1 (HCYb.out X hX) ?_
        rintro e w' ⟨x, rfl, hx, hb⟩
        exact ⟨x, rfl, ⟨_, rfl, hb, ownI_mono hx hXs, fun j hj _ t ht => du_new (hbn.yields j hj t ht) hx⟩⟩
      | 6, _, ho =>
        obtain rfl := Option.some.inj ho
        have d2 := hdep ⟨2, .data⟩ (by simp) rfl
        have d5 := hdep ⟨5, .data⟩ (by simp) rfl
        have q1 : ownI X Wb.heap.size (a.eval (.tmp 34)) T.counts := hbn.yields 2 d2 34 rfl
        have q2 : ownI X Wb.heap.size (a.eval (.tmp 37)) T.colors := hbn.yields 5 d5 37 rfl
        have q3 : Dif2 (a.eval (.tmp 34)) (a.eval (.tmp 37)) := hbn.pairs 2 5 d2 d5 (by decide) 34 37 rfl rfl (by decide) (by decide) (by decide)
        obtain ⟨x1, c1, e1, -⟩ := rdI_own q1
        obtain ⟨x2, c2, e2, -⟩ := rdI_own q2
        rw [e1] at q1 q3
        rw [e2] at q2 q3
        exact opBuild2 e1 e2 ⟨_, rfl, Below.refl _ _, ⟨x1, c1, x2, c2, rfl, q1, q2, q3⟩, fun j hj _ t ht => du_no rfl⟩
    · intro o ho a X hX hA dn hbn hdn
      obtain rfl := Option.some.inj ho
      obtain ⟨x1, c1, x2, c2, e2, q1, q2, q3⟩ := hbn.yields 6 (hdn 6 (by omega)) 38 rfl
      have e1 : a.eval (.tmp 8) = .pointer (some ⟨w.heap.size + 2, 0, none⟩) := alike_at hA (t := 8) (by kernel_rfl)
      have hf : Two X (w.heap.size + 2) (.slice none 0 0) (.slice none 0 0) := HRES.out.later hX (HGR.out)
      refine opStoreT e1 e2 hf ?_
      obtain ⟨us, hus, rfl⟩ := alike_tmps hA [32, 33, 34, 35, 36, 37, 38] (by kernel_rfl)
      obtain ⟨k0, k1⟩ := setTwo_cell (.slice x1 (T.counts).length c1) (.slice x2 (T.colors).length c2) hf
      have HT : Hid (TM (setTwo X (w.heap.size + 2) (.slice x1 (T.counts).length c1) (.slice x2 (T.colors).length c2)) w.heap.size ⟨x1, (T.counts).length, c1, x2, (T.colors).length, c2⟩ ⟨T.counts, T.colors⟩) := by
        have ne : ∀ {v : Value} {zs : List Int}, ownI X Wb.heap.size v zs → ownI (setTwo X (w.heap.size + 2) (.slice x1 (T.counts).length c1) (.slice x2 (T.colors).length c2)) w.heap.size v zs := fun hr => ownI_mono (ownI_same hr (fun i hi => setTwo_other _ _ _ _ i (by have := (ownI_lt hr i hi).1; have := HGR.out; omega))) (Nat.le_trans HBW.out.size (Nat.le_refl _))
        exact ⟨ne q1, ne q2, q3⟩
      have HB : Hid (Below w.heap.size w (setTwo X (w.heap.size + 2) (.slice x1 (T.counts).length c1) (.slice x2 (T.colors).length c2))) := by
        unfold setTwo
        exact ((HBW.out.trans (hX.mono HBW.out.size)).setCell (by simp) _).setCell (by simp) _
      clear hbn hdn hA hus e1 e2 hf q1 q2 q3 ho
      generalize setTwo X (w.heap.size + 2) (.slice x1 (T.counts).length c1) (.slice x2 (T.colors).length c2) = Y at *
      simp only [List.mapIdx_cons, List.mapIdx_nil, Nat.reduceAdd, List.contains_cons, List.contains_nil, Nat.reduceBEq, Bool.or_false, Bool.or_true, if_true, if_false, Bool.false_eq_true]
      go_wp2
      exact bodyPost_ret (v := .agg #[.slice x1 (T.counts).length c1, .slice x2 (T.colors).length c2]) (by simp [results, Try.results109, go_sem, *]) rfl ⟨⟨x1, (T.counts).length, c1, x2, (T.colors).length, c2⟩, rfl, HT.out, HB.out⟩
def RY (B : Nat) (fv p1 s1 q1 g1 p2 s2 q2 g2 u v z r : Value) : Nat → World → Value → Prop
  | 0, _, x => x = fv
  | 1, _, x => x = p1
  | 2, _, x => x = s1
  | 3, _, x => x = q1
  | 4, _, x => x = g1
  | 5, _, x => x = p2
  | 6, _, x => x = s2
  | 7, _, x => x = q2
  | 8, _, x => x = g2
  | 9, _, x => x = u
  | 10, _, x => x = v
  | 11, _, x => x = z
  | 12, _, x => x = r
  | 13, X, x => ∃ g, x = .pointer (some ⟨g, 0, none⟩) ∧ B ≤ g ∧ Arr X g (trD 0 0 0 0 0 0 0 0 0 0 0 0 0 0 0 0)
  | _, _, _ => True
theorem ry_mono {B : Nat} {fv p1 s1 q1 g1 p2 s2 q2 g2 u v z r : Value} (i : Nat) (X Y : World) (x : Value) (h : RY B fv p1 s1 q1 g1 p2 s2 q2 g2 u v z r i X x) (hb : Below X.heap.size X Y) : RY B fv p1 s1 q1 g1 p2 s2 q2 g2 u v z r i Y x := by
  match i, h with
  | 0, h => exact h
  | 1, h => exact h
  | 2, h => exact h
  | 3, h => exact h
  | 4, h => exact h
  | 5, h => exact h
  | 6, h => exact h
  | 7, h => exact h
  | 8, h => exact h
  | 9, h => exact h
  | 10, h => exact h
  | 11, h => exact h
  | 12, h => exact h
  | 13, ⟨g, h1, h2, h3⟩ => exact ⟨g, h1, h2, h3.later hb⟩
  | n + 14, _ => exact trivial
set_option maxHeartbeats 16000000 in
theorem iTried_yes (v u : Value) (F : Nat) (hop : TryOp F) (H : HeapD) (T R : TrialD) (s : Nat) (w : World) (h : RdH w v H) (ht : RdT w u T) (hs : SmallH H) (hst : SmallT T) (hok : OkT H T (s : Int)) (hR : Eight R)
    (hC : ∀ X, Below w.heap.size w X → Calls Try.prog F #[arrV T, v, .int .i64 (s : Int)] X fun e w' => e = .returned (arrV R) ∧ Below X.heap.size X w') :
    Calls Try.prog 109 #[v, u, .int .i64 (s : Int), .func (.func F) #[] #[]] w fun e w' => ∃ s : TSh, e = .returned s.v ∧ TM w' w.heap.size s R ∧ Below w.heap.size w w' := by
  have HRH : Hid (∀ X, Below w.heap.size w X → RdH X v H) := fun X hX => rdH_later h hX
  have hl8 : s < H.objs.length := by have := hok.objs; have := hok.hi; omega
  have hlv : H.objs[s].live = true := by
    obtain ⟨o, ho, h2⟩ := hok.live
    rw [show ((s : Int)).toNat = s from by omega, List.getElem?_eq_getElem hl8] at ho
    injection ho with ho
    rw [ho]; exact h2
  obtain ⟨lg, loff, lf, lcap, -, -, -, CL0⟩ := liveIn_yes v H s w h (by have := hs.objs; omega) (by have := hok.hi; omega) hl8 hlv
  have CL : Hid _ := CL0.out
  have HCC : Hid (∀ X, Below w.heap.size w X → _) := hC
  have E8 : Eight T := ⟨hok.counts, hok.colors⟩
  have HR8 : Hid (Eight R) := hR
  have k0 := hok.objs
  have k1 := hok.counts
  have k2 := hok.colors
  obtain ⟨r0, r1, r2, r3, r4, r5, r6, r7, r8, r9, r10, r11, r12, r13, r14, r15, eR⟩ := eight_trD hR
  have HER : Hid (R = trD r0 r1 r2 r3 r4 r5 r6 r7 r8 r9 r10 r11 r12 r13 r14 r15) := eR
  clear hok hC CL0 eR hR
  obtain ⟨ao, co, aw, cw, ab, cb, sa, sc, rfl, -, -, -, -⟩ := h
  obtain ⟨xa, xc, ya, yc, rfl, r1, r2⟩ := ht
  have l0 := hs.objs
  have l1 := hst.counts
  have l2 := hst.colors
  have HRX : Hid (∀ X, Below w.heap.size w X → RdI X xa T.counts) := fun X hX => rdI_later r1 hX
  have HRY : Hid (∀ X, Below w.heap.size w X → RdI X ya T.colors) := fun X hX => rdI_later r2 hX
  generalize H.weaks.length = nw at *
  generalize H.buffer.length = nb at *
  generalize H.sites.length = ns at *
  have HCX : Hid (∀ X, Below w.heap.size w X → _) := fun X hX => clone_calls X xa xc T.counts (rdI_later r1 hX) (by omega)
  have HCY : Hid (∀ X, Below w.heap.size w X → _) := fun X hX => clone_calls X ya yc T.colors (rdI_later r2 hX) (by omega)
  obtain ⟨lo, hlo⟩ : ∃ lo, H.objs.length = lo := ⟨_, rfl⟩
  obtain ⟨lx, hlx⟩ : ∃ lx, T.counts.length = lx := ⟨_, rfl⟩
  obtain ⟨ly, hly⟩ : ∃ ly, T.colors.length = ly := ⟨_, rfl⟩
  have HLO : Hid (H.objs.length = lo) := hlo
  have HLX : Hid (T.counts.length = lx) := hlx
  have HLY : Hid (T.colors.length = ly) := hly
  rw [hlx] at HCX
  rw [hly] at HCY
  rw [hlo, hlx, hly]
  rw [hlo] at l0 HRH
  rw [hlx] at l1
  rw [hly] at l2
  clear hlo hlx hly
  obtain ⟨W, hW⟩ : ∃ W, W = ((w.alloc (.cells #[.slice ao lo co, .slice aw nw cw, .slice ab nb cb, .slice sa ns sc] 29)).alloc (.cells #[.slice xa lx xc, .slice ya ly yc] 77)).alloc (.cells #[.slice none 0 0, .slice none 0 0] 77) := ⟨_, rfl⟩
  have BW : Below w.heap.size w W := by rw [hW]; exact (((Below.refl _ _).alloc (Nat.le_refl _) _).alloc (by simp) _).alloc (by simp; omega) _
  have hWs : W.heap.size = w.heap.size + 3 := by rw [hW]; simp
  have FH : Four W w.heap.size (.slice ao lo co) (.slice aw nw cw) (.slice ab nb cb) (.slice sa ns sc) := by
    have f := Four.new w (.slice ao lo co) (.slice aw nw cw) (.slice ab nb cb) (.slice sa ns sc)
    have f2 := f.later ((Below.refl _ _).alloc (Nat.le_refl _) (.cells #[.slice xa lx xc, .slice ya ly yc] 77))
    have f3 := f2.later ((Below.refl _ _).alloc (Nat.le_refl _) (.cells #[.slice none 0 0, .slice none 0 0] 77))
    rw [hW]; exact f3
  have FP : Two W (w.heap.size + 1) (.slice xa lx xc) (.slice ya ly yc) := by
    have f := Two.new (w.alloc (.cells #[.slice ao lo co, .slice aw nw cw, .slice ab nb cb, .slice sa ns sc] 29)) (.slice xa lx xc) (.slice ya ly yc)
    have f2 := f.later ((Below.refl _ _).alloc (Nat.le_refl _) (.cells #[.slice none 0 0, .slice none 0 0] 77)) (by simp)
    rw [← hW] at f2
    simpa using f2
  have FR : Two W (w.heap.size + 2) (.slice none 0 0) (.slice none 0 0) := by
    have f := Two.new ((w.alloc (.cells #[.slice ao lo co, .slice aw nw cw, .slice ab nb cb, .slice sa ns sc] 29)).alloc (.cells #[.slice xa lx xc, .slice ya ly yc] 77)) (.slice none 0 0) (.slice none 0 0)
    rw [← hW] at f
    simpa using f
  obtain rfl : lo = 8 := by have := HLO.out; omega
  rw [HLO.out] at CL HCC
  obtain rfl : lx = 8 := by have := HLX.out; omega
  obtain rfl : ly = 8 := by have := HLY.out; omega
  obtain ⟨a0, a1, a2, a3, a4, a5, a6, a7, b0, b1, b2, b3, b4, b5, b6, b7, eT⟩ := eight_trD E8
  subst eT
  have HRX0 := HRX.out
  have HRY0 := HRY.out
  obtain ⟨xg, xo, rfl, -, -⟩ := HRX.out w (Below.refl _ _) 0 (by show 0 < 8; omega)
  obtain ⟨yg, yo, rfl, -, -⟩ := HRY.out w (Below.refl _ _) 0 (by show 0 < 8; omega)
  have HG1 : Hid (w.heap.size + 1 < W.heap.size) := by show _ < _; omega
  have HGR0 : Hid (w.heap.size + 2 < W.heap.size) := by show _ < _; omega
  have HGH : Hid (w.heap.size < W.heap.size) := by show _ < _; omega
  clear HCX HCY HRX0 HRY0 r1 r2
  go_enter Try.func109, Try.ntmps109
  go_wp2_with fail
  rw [← hW]
  refine (CL.out _ BW).mono ?_
  rintro e Wa ⟨rfl, bb⟩
  have BWa := BW.trans (bb.mono BW.size)
  have HFH : Hid (∀ X, Below Wa.heap.size Wa X → Four X w.heap.size (.slice ao 8 co) (.slice aw nw cw) (.slice ab nb cb) (.slice sa ns sc)) := fun X hX => (FH.later bb).later hX
  have HFT : Hid (Two Wa (w.heap.size + 1) (.slice (some ⟨xg, xo, none⟩) 8 xc) (.slice (some ⟨yg, yo, none⟩) 8 yc)) := FP.later bb HG1.out
  have HFR : Hid (Two Wa (w.heap.size + 2) (.slice none 0 0) (.slice none 0 0)) := FR.later bb HGR0.out
  have hbs := bb.size
  have HG1a : Hid (w.heap.size + 1 < Wa.heap.size) := Nat.lt_of_lt_of_le HG1.out hbs
  have HGRa : Hid (w.heap.size + 2 < Wa.heap.size) := Nat.lt_of_lt_of_le HGR0.out hbs
  have HBWa : Hid (Below w.heap.size w Wa) := BWa
  clear hW BW FH FP FR BWa bb HG1 HGR0 HGH hbs CL
  go_wp2
  refine wp_region_last 14 (by kernel_rfl) (by kernel_rfl) (RY Wa.heap.size (.func (.func F) #[] #[]) (.pointer (some ⟨w.heap.size + 1, 0, none⟩)) (.slice (some ⟨xg, xo, none⟩) 8 xc) (.pointer (some ⟨xg, xo, none⟩)) (.agg #[.int .i64 a0, .int .i64 a1, .int .i64 a2, .int .i64 a3, .int .i64 a4, .int .i64 a5, .int .i64 a6, .int .i64 a7]) (.pointer (some ⟨w.heap.size + 1, 1, none⟩)) (.slice (some ⟨yg, yo, none⟩) 8 yc) (.pointer (some ⟨yg, yo, none⟩)) (.agg #[.int .i64 b0, .int .i64 b1, .int .i64 b2, .int .i64 b3, .int .i64 b4, .int .i64 b5, .int .i64 b6, .int .i64 b7]) (arrV (trD a0 a1 a2 a3 a4 a5 a6 a7 b0 b1 b2 b3 b4 b5 b6 b7)) (.agg #[.slice ao 8 co, .slice aw nw cw, .slice ab nb cb, .slice sa ns sc]) (.int .i64 (s : Int)) (arrV R)) ry_mono ?_ ?_
  · intro i o hi ho a X hX hA hdep
    have FX := HFT.out.later hX HG1a.out
    have hXs := hX.size
    have hXw := HBWa.out.trans (hX.mono HBWa.out.size)
    match i, hi, ho with
    | 0, _, ho =>
      obtain rfl := Option.some.inj ho
      exact opMoveV (alike_at hA (t := 3) (by kernel_rfl)) ⟨_, rfl, Below.refl _ _, rfl⟩
    | 1, _, ho =>
      obtain rfl := Option.some.inj ho
      exact opFieldT 0 (by omega) (alike_at hA (t := 5) (by kernel_rfl)) ⟨_, rfl, Below.refl _ _, rfl⟩
    | 2, _, ho =>
      obtain rfl := Option.some.inj ho
      have e1 : a.eval (.tmp 40) = .pointer (some ⟨w.heap.size + 1, 0, none⟩) := hdep ⟨1, .data⟩ (by simp) rfl 40 rfl
      exact opLoadI e1 (FX.cell 0) ⟨_, rfl, Below.refl _ _, rfl⟩
    | 3, _, ho =>
      obtain rfl := Option.some.inj ho
      have e1 : a.eval (.tmp 41) = .slice (some ⟨xg, xo, none⟩) 8 xc := hdep ⟨2, .data⟩ (by simp) rfl 41 rfl
      exact opToArr e1 ⟨_, rfl, Below.refl _ _, rfl⟩
    | 4, _, ho =>
      obtain rfl := Option.some.inj ho
      have e1 : a.eval (.tmp 42) = .pointer (some ⟨xg, xo, none⟩) := hdep ⟨3, .data⟩ (by simp) rfl 42 rfl
      exact opLoadArr e1 (HRX.out X hXw) ⟨_, rfl, Below.refl _ _, rfl⟩
    | 5, _, ho =>
      obtain rfl := Option.some.inj ho
      exact opFieldT 1 (by omega) (alike_at hA (t := 5) (by kernel_rfl)) ⟨_, rfl, Below.refl _ _, rfl⟩
    | 6, _, ho =>
      obtain rfl := Option.some.inj ho
      have e1 : a.eval (.tmp 44) = .pointer (some ⟨w.heap.size + 1, 1, none⟩) := hdep ⟨5, .data⟩ (by simp) rfl 44 rfl
      exact opLoadI e1 (FX.cell 1) ⟨_, rfl, Below.refl _ _, rfl⟩
    | 7, _, ho =>
      obtain rfl := Option.some.inj ho
      have e1 : a.eval (.tmp 45) = .slice (some ⟨yg, yo, none⟩) 8 yc := hdep ⟨6, .data⟩ (by simp) rfl 45 rfl
      exact opToArr e1 ⟨_, rfl, Below.refl _ _, rfl⟩
    | 8, _, ho =>
      obtain rfl := Option.some.inj ho
      have e1 : a.eval (.tmp 46) = .pointer (some ⟨yg, yo, none⟩) := hdep ⟨7, .data⟩ (by simp) rfl 46 rfl
      exact opLoadArr e1 (HRY.out X hXw) ⟨_, rfl, Below.refl _ _, rfl⟩
    | 9, _, ho =>
      obtain rfl := Option.some.inj ho
      have e1 : a.eval (.tmp 43) = .agg #[.int .i64 a0, .int .i64 a1, .int .i64 a2, .int .i64 a3, .int .i64 a4, .int .i64 a5, .int .i64 a6, .int .i64 a7] := hdep ⟨4, .data⟩ (by simp) rfl 43 rfl
      have e2 : a.eval (.tmp 47) = .agg #[.int .i64 b0, .int .i64 b1, .int .i64 b2, .int .i64 b3, .int .i64 b4, .int .i64 b5, .int .i64 b6, .int .i64 b7] := hdep ⟨8, .data⟩ (by simp) rfl 47 rfl
      exact opBuildTr e1 e2 ⟨_, rfl, Below.refl _ _, rfl⟩
    | 10, _, ho =>
      obtain rfl := Option.some.inj ho
      exact opLoadHp (alike_at hA (t := 4) (by kernel_rfl)) (HFH.out X hX) ⟨_, rfl, Below.refl _ _, rfl⟩
    | 11, _, ho =>
      obtain rfl := Option.some.inj ho
      exact opMoveV (alike_at hA (t := 2) (by kernel_rfl)) ⟨_, rfl, Below.refl _ _, rfl⟩
    | 12, _, ho =>
      obtain rfl := Option.some.inj ho
      have e0 : a.eval (.tmp 39) = .func (.func F) #[] #[] := hdep ⟨0, .data⟩ (by simp) rfl 39 rfl
      have e1 : a.eval (.tmp 48) = arrV (trD a0 a1 a2 a3 a4 a5 a6 a7 b0 b1 b2 b3 b4 b5 b6 b7) := hdep ⟨9, .data⟩ (by simp) rfl 48 rfl
      have e2 : a.eval (.tmp 49) = .agg #[.slice ao 8 co, .slice aw nw cw, .slice ab nb cb, .slice sa ns sc] := hdep ⟨10, .data⟩ (by simp) rfl 49 rfl
      have e3 : a.eval (.tmp 50) = .int .i64 (s : Int) := hdep ⟨11, .data⟩ (by simp) rfl 50 rfl
      refine hop _ _ _ _ _ _ _ _ _ _ _ _ _ _ _ _ _ e0 e1 e2 e3 (HCC.out X hXw) ?_
      rintro e w' ⟨rfl, hb⟩
      exact ⟨_, rfl, _, rfl, hb, rfl⟩
    | 13, _, ho =>
      obtain rfl := Option.some.inj ho
      exact opAllocTr ⟨_, rfl, (Below.refl _ _).alloc (Nat.le_refl _) _, X.heap.size, rfl, hXs, Arr.new X (trD 0 0 0 0 0 0 0 0 0 0 0 0 0 0 0 0)⟩
  · intro o ho a X hX hA hdep
    obtain rfl := Option.some.inj ho
    have e12 : a.eval (.tmp 51) = arrV R := hdep ⟨12, .data⟩ (by simp) rfl 51 rfl
    obtain ⟨g, e9, hgB, hAr⟩ := hdep ⟨13, .data⟩ (by simp) rfl 9 rfl
    rw [HER.out, trD_v] at e12
    refine opStore16 e9 e12 hAr ⟨rfl, rfl⟩ ?_
    have AY := set16_arr hAr ⟨rfl, rfl⟩ r0 r1 r2 r3 r4 r5 r6 r7 r8 r9 r10 r11 r12 r13 r14 r15
    rw [← HER.out] at AY
    have hXw := HBWa.out.trans (hX.mono HBWa.out.size)
    have hXs := hX.size
    have BY : Below w.heap.size w (set16 X g r0 r1 r2 r3 r4 r5 r6 r7 r8 r9 r10 r11 r12 r13 r14 r15) := set16_below r0 r1 r2 r3 r4 r5 r6 r7 r8 r9 r10 r11 r12 r13 r14 r15 hXw (by have := HBWa.out.size; omega)
    have sY : (set16 X g r0 r1 r2 r3 r4 r5 r6 r7 r8 r9 r10 r11 r12 r13 r14 r15).heap.size = X.heap.size := set16_size _ _ r0 r1 r2 r3 r4 r5 r6 r7 r8 r9 r10 r11 r12 r13 r14 r15
    have hRY : Two (set16 X g r0 r1 r2 r3 r4 r5 r6 r7 r8 r9 r10 r11 r12 r13 r14 r15) (w.heap.size + 2) (.slice none 0 0) (.slice none 0 0) := (HFR.out.later hX HGRa.out).same (set16_other _ _ r0 r1 r2 r3 r4 r5 r6 r7 r8 r9 r10 r11 r12 r13 r14 r15 _ (by have := HGRa.out; omega))
    obtain ⟨us, hus, rfl⟩ := alike_tmps hA [39, 40, 41, 42, 43, 44, 45, 46, 47, 48, 49, 50, 51, 9] (by kernel_rfl)
    have u9 : us 9 = .pointer (some ⟨g, 0, none⟩) := (hus 9).symm.trans e9
    have HGR1 : Hid (w.heap.size + 2 < (set16 X g r0 r1 r2 r3 r4 r5 r6 r7 r8 r9 r10 r11 r12 r13 r14 r15).heap.size) := by show _ < _; rw [sY]; have := HGRa.out; omega
    clear hdep hA hus e9 e12 hAr ho
    generalize set16 X g r0 r1 r2 r3 r4 r5 r6 r7 r8 r9 r10 r11 r12 r13 r14 r15 = Wb at *
    have HBW : Hid (Below w.heap.size w Wb) := BY
    have HRES : Hid (Two Wb (w.heap.size + 2) (.slice none 0 0) (.slice none 0 0)) := hRY
    have HGR : Hid (w.heap.size + 2 < Wb.heap.size) := HGR1
    have HCXb : Hid (∀ X, Below Wb.heap.size Wb X → _) := fun X hX => clone_calls X (some ⟨g, 0, none⟩) 8 R.counts ((AY.later hX).rdx HR8.out) (by have := HR8.out.1; omega)
    have HCYb : Hid (∀ X, Below Wb.heap.size Wb X → _) := fun X hX => clone_calls X (some ⟨g, 8, none⟩) 8 R.colors ((AY.later hX).rdy HR8.out) (by have := HR8.out.2; omega)
    rw [HR8.out.1] at HCXb
    rw [HR8.out.2] at HCYb
    clear BY sY hRY HGR1 hXw hXs hX HFR HGRa HFT HG1a HFH HBWa HRX HRY HCC AY hop HER
    simp only [List.mapIdx_cons, List.mapIdx_nil, Nat.reduceAdd, List.contains_cons, List.contains_nil, Nat.reduceBEq, Bool.or_false, Bool.or_true, if_true, if_false, Bool.false_eq_true]
    rw [u9]
    clear u9
    go_wp2
    refine wp_region_pair 7 (by kernel_rfl) (by kernel_rfl) (RU Wb.heap.size (.pointer (some ⟨g, 0, none⟩)) (.slice (some ⟨g, 0, none⟩) 8 8) (.pointer (some ⟨g, 8, none⟩)) (.slice (some ⟨g, 8, none⟩) 8 8) R.counts R.colors) DU ru_mono ?_ ?_
    · intro i o hi ho a X hX hA dn hbn hdep
      have hXs := hX.size
      match i, hi, ho with
      | 0, _, ho =>
        obtain rfl := Option.some.inj ho
        exact opFieldR0 (alike_at hA (t := 9) (by kernel_rfl)) ⟨_, rfl, Below.refl _ _, rfl, fun j hj _ t ht => du_no rfl⟩
      | 1, _, ho =>
        obtain rfl := Option.some.inj ho
        have e1 : a.eval (.tmp 52) = (.pointer (some ⟨g, 0, none⟩)) := hbn.yields 0 (hdep ⟨0, .data⟩ (by simp) rfl) 52 rfl
        exact opSliceArr e1 ⟨_, rfl, Below.refl _ _, rfl, fun j hj _ t ht => du_no rfl⟩
      | 2, _, ho =>
        obtain rfl := Option.some.inj ho
        have e1 : a.eval (.tmp 53) = (.slice (some ⟨g, 0, none⟩) 8 8) := hbn.yields 1 (hdep ⟨1, .data⟩ (by simp) rfl) 53 rfl
        refine opCloneI e1 (HCXb.out X hX) ?_
        rintro e w' ⟨x, rfl, hx, hb⟩
        exact ⟨x, rfl, ⟨_, rfl, hb, ownI_mono hx hXs, fun j hj _ t ht => du_new (hbn.yields j hj t ht) hx⟩⟩
      | 3, _, ho =>
        obtain rfl := Option.some.inj ho
        exact opFieldR1 (alike_at hA (t := 9) (by kernel_rfl)) ⟨_, rfl, Below.refl _ _, rfl, fun j hj _ t ht => du_no rfl⟩
      | 4, _, ho =>
        obtain rfl := Option.some.inj ho
        have e1 : a.eval (.tmp 55) = (.pointer (some ⟨g, 8, none⟩)) := hbn.yields 3 (hdep ⟨3, .data⟩ (by simp) rfl) 55 rfl
        exact opSliceArr e1 ⟨_, rfl, Below.refl _ _, rfl, fun j hj _ t ht => du_no rfl⟩
      | 5, _, ho =>
        obtain rfl := Option.some.inj ho
        have e1 : a.eval (.tmp 56) = (.slice (some ⟨g, 8, none⟩) 8 8) := hbn.yields 4 (hdep ⟨4, .data⟩ (by simp) rfl) 56 rfl
        refine opCloneI e1 (HCYb.out X hX) ?_
        rintro e w' ⟨x, rfl, hx, hb⟩
        exact ⟨x, rfl, ⟨_, rfl, hb, ownI_mono hx hXs, fun j hj _ t ht => du_new (hbn.yields j hj t ht) hx⟩⟩
      | 6, _, ho =>
        obtain rfl := Option.some.inj ho
        have d2 := hdep ⟨2, .data⟩ (by simp) rfl
        have d5 := hdep ⟨5, .data⟩ (by simp) rfl
        have q1 : ownI X Wb.heap.size (a.eval (.tmp 54)) R.counts := hbn.yields 2 d2 54 rfl
        have q2 : ownI X Wb.heap.size (a.eval (.tmp 57)) R.colors := hbn.yields 5 d5 57 rfl
        have q3 : Dif2 (a.eval (.tmp 54)) (a.eval (.tmp 57)) := hbn.pairs 2 5 d2 d5 (by decide) 54 57 rfl rfl (by decide) (by decide) (by decide)
        obtain ⟨x1, c1, e1, -⟩ := rdI_own q1
        obtain ⟨x2, c2, e2, -⟩ := rdI_own q2
        rw [e1] at q1 q3
        rw [e2] at q2 q3
        exact opBuild2 e1 e2 ⟨_, rfl, Below.refl _ _, ⟨x1, c1, x2, c2, rfl, q1, q2, q3⟩, fun j hj _ t ht => du_no rfl⟩
    · intro o ho a X hX hA dn hbn hdn
      obtain rfl := Option.some.inj ho
      obtain ⟨x1, c1, x2, c2, e2, q1, q2, q3⟩ := hbn.yields 6 (hdn 6 (by omega)) 58 rfl
      have e1 : a.eval (.tmp 8) = .pointer (some ⟨w.heap.size + 2, 0, none⟩) := alike_at hA (t := 8) (by kernel_rfl)
      have hf : Two X (w.heap.size + 2) (.slice none 0 0) (.slice none 0 0) := HRES.out.later hX (HGR.out)
      refine opStoreT e1 e2 hf ?_
      obtain ⟨us, hus, rfl⟩ := alike_tmps hA [52, 53, 54, 55, 56, 57, 58] (by kernel_rfl)
      obtain ⟨k0, k1⟩ := setTwo_cell (.slice x1 (R.counts).length c1) (.slice x2 (R.colors).length c2) hf
      have HT : Hid (TM (setTwo X (w.heap.size + 2) (.slice x1 (R.counts).length c1) (.slice x2 (R.colors).length c2)) w.heap.size ⟨x1, (R.counts).length, c1, x2, (R.colors).length, c2⟩ ⟨R.counts, R.colors⟩) := by
        have ne : ∀ {v : Value} {zs : List Int}, ownI X Wb.heap.size v zs → ownI (setTwo X (w.heap.size + 2) (.slice x1 (R.counts).length c1) (.slice x2 (R.colors).length c2)) w.heap.size v zs := fun hr => ownI_mono (ownI_same hr (fun i hi => setTwo_other _ _ _ _ i (by have := (ownI_lt hr i hi).1; have := HGR.out; omega))) (Nat.le_trans HBW.out.size (Nat.le_refl _))
        exact ⟨ne q1, ne q2, q3⟩
      have HB : Hid (Below w.heap.size w (setTwo X (w.heap.size + 2) (.slice x1 (R.counts).length c1) (.slice x2 (R.colors).length c2))) := by
        unfold setTwo
        exact ((HBW.out.trans (hX.mono HBW.out.size)).setCell (by simp) _).setCell (by simp) _
      clear hbn hdn hA hus e1 e2 hf q1 q2 q3 ho
      generalize setTwo X (w.heap.size + 2) (.slice x1 (R.counts).length c1) (.slice x2 (R.colors).length c2) = Y at *
      simp only [List.mapIdx_cons, List.mapIdx_nil, Nat.reduceAdd, List.contains_cons, List.contains_nil, Nat.reduceBEq, Bool.or_false, Bool.or_true, if_true, if_false, Bool.false_eq_true]
      go_wp2
      exact bodyPost_ret (v := .agg #[.slice x1 (R.counts).length c1, .slice x2 (R.colors).length c2]) (by simp [results, Try.results109, go_sem, *]) rfl ⟨⟨x1, (R.counts).length, c1, x2, (R.colors).length, c2⟩, rfl, HT.out, HB.out⟩
end Go.Proofs.Ytnjplfofcjonhaa

namespace Go.Proofs.Ytnjplfofcjonhaa
open Go.RowKit
set_option linter.unusedVariables false
set_option maxRecDepth 100000
def paintT (d c : Int) (H : HeapD) (T : TrialD) (k : Nat) : TrialD := if col T k = c then T else spreadAll d c H ⟨T.counts, T.colors.set k c⟩ [(k : Int)]
theorem paintT_eight (d c : Int) (H : HeapD) (T : TrialD) (k : Nat) (h8 : Eight T) (hk : k < 8) : Eight (paintT d c H T k) := by
  unfold paintT
  split
  · exact h8
  · exact spreadAll_eight d c H _ _ ⟨h8.1, by simpa using h8.2⟩ (fun z hz => by rw [List.mem_singleton.1 hz]; omega)
theorem painted_top (v : Value) (H : HeapD) (c d : Int) (hs : SmallH H) (h8 : H.objs.length = 8) (hf : ∀ o ∈ H.objs, ∀ z ∈ o.field, in64 z) (T : TrialD) (k : Nat) (w : World) (hT : Eight T) (hk : k < 8) (h : RdH w v H) :
    Calls Try.prog 117 #[arrV T, v, .int .i64 (k : Int), .int .i64 c, .int .i64 d] w fun e w' => e = .returned (arrV (paintT d c H T k)) ∧ Below w.heap.size w w' := by
  unfold paintT
  by_cases hc : col T k = c
  · rw [if_pos hc]
    exact painted_same v H c d T k w hT hk hc h
  · rw [if_neg hc]
    refine (painted_calls v H c d hs h8 hf T (Rch c H T k) (rch_runs c H T k) _ T [] [] k w (Nat.le_refl _) (deep_start _ hT) hk (fun _ R h1 _ => h1) h).mono ?_
    rintro e w' ⟨T', rfl, hp, hb⟩
    rw [painted_all hT hk hc hp]
    exact ⟨rfl, hb⟩
set_option maxHeartbeats 4000000 in
theorem markGray_calls (v : Value) (H : HeapD) (hs : SmallH H) (h8 : H.objs.length = 8) (hf : ∀ o ∈ H.objs, ∀ z ∈ o.field, in64 z) (T : TrialD) (k : Nat) (w : World) (hT : Eight T) (hk : k < 8) (h : RdH w v H) :
    Calls Try.prog 110 #[arrV T, v, .int .i64 (k : Int)] w fun e w' => e = .returned (arrV (paintT (-1) 1 H T k)) ∧ Below w.heap.size w w' := by
  have CP : Hid (∀ X, Below w.heap.size w X → _) := fun X hX => painted_top v H 1 (-1) hs h8 hf T k X hT hk (rdH_later h hX)
  have hR := paintT_eight (-1) 1 H T k hT hk
  generalize paintT (-1) 1 H T k = R at *
  obtain ⟨ao, co, aw, cw, ab, cb, sa, sc, rfl, -, -, -, -⟩ := h
  obtain ⟨a0, a1, a2, a3, a4, a5, a6, a7, b0, b1, b2, b3, b4, b5, b6, b7, rfl⟩ := eight_trD hT
  obtain ⟨r0, r1, r2, r3, r4, r5, r6, r7, r8, r9, r10, r11, r12, r13, r14, r15, rfl⟩ := eight_trD hR
  rw [trD_v, trD_v] at CP
  rw [trD_v, trD_v]
  obtain ⟨W, hW⟩ : ∃ W, W = ((w.alloc (.cells #[.int .i64 a0, .int .i64 a1, .int .i64 a2, .int .i64 a3, .int .i64 a4, .int .i64 a5, .int .i64 a6, .int .i64 a7, .int .i64 b0, .int .i64 b1, .int .i64 b2, .int .i64 b3, .int .i64 b4, .int .i64 b5, .int .i64 b6, .int .i64 b7] 127)).alloc (.cells #[.slice ao H.objs.length co, .slice aw H.weaks.length cw, .slice ab H.buffer.length cb, .slice sa H.sites.length sc] 29)).alloc (.cells #[.int .i64 0, .int .i64 0, .int .i64 0, .int .i64 0, .int .i64 0, .int .i64 0, .int .i64 0, .int .i64 0, .int .i64 0, .int .i64 0, .int .i64 0, .int .i64 0, .int .i64 0, .int .i64 0, .int .i64 0, .int .i64 0] 127) := ⟨_, rfl⟩
  have BW : Below w.heap.size w W := by rw [hW]; exact (((Below.refl _ _).alloc (Nat.le_refl _) _).alloc (by simp) _).alloc (by simp; omega) _
  have sW : W.heap.size = w.heap.size + 3 := by rw [hW]; simp
  have Z0 : Arr W (w.heap.size + 2) (trD 0 0 0 0 0 0 0 0 0 0 0 0 0 0 0 0) := by
    have f := Arr.new ((w.alloc (.cells #[.int .i64 a0, .int .i64 a1, .int .i64 a2, .int .i64 a3, .int .i64 a4, .int .i64 a5, .int .i64 a6, .int .i64 a7, .int .i64 b0, .int .i64 b1, .int .i64 b2, .int .i64 b3, .int .i64 b4, .int .i64 b5, .int .i64 b6, .int .i64 b7] 127)).alloc (.cells #[.slice ao H.objs.length co, .slice aw H.weaks.length cw, .slice ab H.buffer.length cb, .slice sa H.sites.length sc] 29)) (trD 0 0 0 0 0 0 0 0 0 0 0 0 0 0 0 0)
    have f2 : Arr W ((w.alloc (.cells #[.int .i64 a0, .int .i64 a1, .int .i64 a2, .int .i64 a3, .int .i64 a4, .int .i64 a5, .int .i64 a6, .int .i64 a7, .int .i64 b0, .int .i64 b1, .int .i64 b2, .int .i64 b3, .int .i64 b4, .int .i64 b5, .int .i64 b6, .int .i64 b7] 127)).alloc (.cells #[.slice ao H.objs.length co, .slice aw H.weaks.length cw, .slice ab H.buffer.length cb, .slice sa H.sites.length sc] 29)).heap.size (trD 0 0 0 0 0 0 0 0 0 0 0 0 0 0 0 0) := by rw [hW]; exact f
    simpa using f2
  have HZ : Hid (∀ X, Below W.heap.size W X → Arr X (w.heap.size + 2) (trD 0 0 0 0 0 0 0 0 0 0 0 0 0 0 0 0)) := fun X hX => Z0.later hX
  have HZ8 : Hid (Eight (trD 0 0 0 0 0 0 0 0 0 0 0 0 0 0 0 0)) := ⟨rfl, rfl⟩
  have HBW : Hid (∀ X, Below W.heap.size W X → Below w.heap.size w X) := fun X hX => BW.trans (hX.mono BW.size)
  clear hT hR Z0 sW h8 hf hs
  go_enter Try.func110, Try.ntmps110
  go_wp2_with fail
  rw [← hW]
  clear hW
  refine (CP.out _ BW).mono ?_
  rintro e w1 ⟨rfl, b1⟩
  have HA : Hid _ := HZ.out _ b1
  obtain ⟨f0_, f1_, f2_, f3_, f4_, f5_, f6_, f7_, f8_, f9_, f10_, f11_, f12_, f13_, f14_, f15_⟩ := (set16_arr HA.out HZ8.out r0 r1 r2 r3 r4 r5 r6 r7 r8 r9 r10 r11 r12 r13 r14 r15).all
  have HB : Hid (Below w.heap.size w (set16 w1 (w.heap.size + 2) r0 r1 r2 r3 r4 r5 r6 r7 r8 r9 r10 r11 r12 r13 r14 r15)) := set16_below r0 r1 r2 r3 r4 r5 r6 r7 r8 r9 r10 r11 r12 r13 r14 r15 (HBW.out _ b1) (by omega)
  clear BW b1 CP HZ HBW
  go_wp2_with (refine wpList_store16 rfl rfl HA.out HZ8.out ?_)
  exact bodyPost_ret (v := .agg #[.int .i64 r0, .int .i64 r1, .int .i64 r2, .int .i64 r3, .int .i64 r4, .int .i64 r5, .int .i64 r6, .int .i64 r7, .int .i64 r8, .int .i64 r9, .int .i64 r10, .int .i64 r11, .int .i64 r12, .int .i64 r13, .int .i64 r14, .int .i64 r15]) (by simp [results, Try.results110, go_sem, *]) rfl ⟨rfl, HB.out⟩
theorem iGray_calls (v u : Value) (H : HeapD) (T : TrialD) (slot : Int) (w : World) (h : RdH w v H) (ht : RdT w u T) (hs : SmallH H) (hst : SmallT T) (hf : ∀ o ∈ H.objs, ∀ z ∈ o.field, in64 z) (R : TrialD) (hy : OkT H T slot → R = paintT (-1) 1 H T slot.toNat) (hn : ¬ OkT H T slot → R = T) :
    Calls Try.prog 99 #[v, u, .int .i64 slot] w fun e w' => ∃ s : TSh, e = .returned s.v ∧ TM w' w.heap.size s R ∧ Below w.heap.size w w' := by
  have C : ∀ X, Below w.heap.size w X → Calls Try.prog 109 #[v, u, .int .i64 slot, .func (.func 110) #[] #[]] X fun e w' => ∃ s : TSh, e = .returned s.v ∧ TM w' X.heap.size s R ∧ Below X.heap.size X w' := fun X hX => by
    by_cases hok : OkT H T slot
    · rw [hy hok]
      obtain ⟨k, rfl⟩ : ∃ k : Nat, slot = (k : Int) := ⟨slot.toNat, by have := hok.lo; omega⟩
      have hk : k < 8 := by have := hok.hi; omega
      have hT : Eight T := ⟨hok.counts, hok.colors⟩
      rw [show ((k : Int)).toNat = k from by omega]
      exact iTried_yes v u _ tryGray H T _ k X (rdH_later h hX) (rdT_later ht hX) hs hst hok (paintT_eight (-1) 1 H T k hT hk) (fun Y hY => markGray_calls v H hs hok.objs hf T k Y hT hk (rdH_later (rdH_later h hX) hY))
    · rw [hn hok]
      exact iTried_no v u _ H T slot X (rdH_later h hX) (rdT_later ht hX) hs hst hok
  have CT : Hid (∀ X, Below w.heap.size w X → _) := C
  clear C hy hn
  obtain ⟨ao, co, aw, cw, ab, cb, sa, sc, rfl, -, -, -, -⟩ := h
  obtain ⟨xa, xc, ya, yc, rfl, -, -⟩ := ht
  obtain ⟨W, hW⟩ : ∃ W, W = ((w.alloc (.cells #[.slice ao H.objs.length co, .slice aw H.weaks.length cw, .slice ab H.buffer.length cb, .slice sa H.sites.length sc] 29)).alloc (.cells #[.slice xa T.counts.length xc, .slice ya T.colors.length yc] 77)).alloc (.cells #[.slice none 0 0, .slice none 0 0] 77) := ⟨_, rfl⟩
  have BW : Below w.heap.size w W := by rw [hW]; exact (((Below.refl _ _).alloc (Nat.le_refl _) _).alloc (by simp) _).alloc (by simp; omega) _
  have hWs : W.heap.size = w.heap.size + 3 := by rw [hW]; simp
  have FR : Two W (w.heap.size + 2) (.slice none 0 0) (.slice none 0 0) := by
    have f := Two.new ((w.alloc (.cells #[.slice ao H.objs.length co, .slice aw H.weaks.length cw, .slice ab H.buffer.length cb, .slice sa H.sites.length sc] 29)).alloc (.cells #[.slice xa T.counts.length xc, .slice ya T.colors.length yc] 77)) (.slice none 0 0) (.slice none 0 0)
    rw [← hW] at f
    simpa using f
  have HFR : Hid (∀ X, Below W.heap.size W X → Two X (w.heap.size + 2) (.slice none 0 0) (.slice none 0 0)) := fun X hX => FR.later hX (by omega)
  have HBW : Hid (∀ X, Below W.heap.size W X → Below w.heap.size w X) := fun X hX => BW.trans (hX.mono BW.size)
  have HWs : Hid (W.heap.size = w.heap.size + 3) := hWs
  clear FR hWs hs hst hf
  go_enter Try.func99, Try.ntmps99
  go_wp2_with fail
  rw [← hW]
  clear hW
  refine (CT.out _ BW).mono ?_
  rintro e w1 ⟨s, rfl, M1, b1⟩
  have F1 := HFR.out _ b1
  have c0 : w1.cell? ⟨w.heap.size + 2, 0, none⟩ = some (.slice none 0 0) := F1.cell 0
  have c1 : w1.cell? ⟨w.heap.size + 2, 1, none⟩ = some (.slice none 0 0) := F1.cell 1
  have f0 := F1.frozen 0
  have f1 := F1.frozen 1
  obtain ⟨k0, k1⟩ := setTwo_cell (.slice s.a s.n s.c) (.slice s.b s.m s.d) F1
  have HT : Hid (TM (setTwo w1 (w.heap.size + 2) (.slice s.a s.n s.c) (.slice s.b s.m s.d)) w.heap.size s R) := by
    have hle : w.heap.size ≤ W.heap.size := by have := HWs.out; omega
    exact (M1.same (fun g hg _ => setTwo_other _ _ _ _ g (by have := HWs.out; omega))).mono hle
  have HB : Hid (Below w.heap.size w (setTwo w1 (w.heap.size + 2) (.slice s.a s.n s.c) (.slice s.b s.m s.d))) := by
    unfold setTwo
    exact ((HBW.out _ b1).setCell (by simp) _).setCell (by simp) _
  unfold setTwo at HT HB k0 k1
  clear F1 M1 BW b1 CT
  have hv : s.v = .agg #[.slice s.a s.n s.c, .slice s.b s.m s.d] := rfl
  rw [hv]
  go_wp2
  exact bodyPost_ret (v := .agg #[.slice s.a s.n s.c, .slice s.b s.m s.d]) (by simp [results, Try.results99, go_sem, *]) rfl ⟨s, rfl, HT.out, HB.out⟩
end Go.Proofs.Ytnjplfofcjonhaa

namespace Go.Proofs.Ytnjplfofcjonhaa
open Go.RowKit
set_option linter.unusedVariables false
set_option maxRecDepth 100000
set_option maxHeartbeats 4000000 in
theorem scanFrom_same (v : Value) (H : HeapD) (T : TrialD) (k : Nat) (w : World) (h8 : Eight T) (hk : k < 8) (hc : col T k ≠ 1) (h : RdH w v H) :
    Calls Try.prog 111 #[arrV T, v, .int .i64 (k : Int)] w fun e w' => e = .returned (arrV T) ∧ Below w.heap.size w w' := by
  obtain ⟨ao, co, aw, cw, ab, cb, sa, sc, rfl, -, -, -, -⟩ := h
  obtain ⟨a0, a1, a2, a3, a4, a5, a6, a7, b0, b1, b2, b3, b4, b5, b6, b7, rfl⟩ := eight_trD h8
  obtain ⟨W, hW⟩ : ∃ W, W = ((w.alloc (.cells #[.int .i64 a0, .int .i64 a1, .int .i64 a2, .int .i64 a3, .int .i64 a4, .int .i64 a5, .int .i64 a6, .int .i64 a7, .int .i64 b0, .int .i64 b1, .int .i64 b2, .int .i64 b3, .int .i64 b4, .int .i64 b5, .int .i64 b6, .int .i64 b7] 127)).alloc (.cells #[.slice ao H.objs.length co, .slice aw H.weaks.length cw, .slice ab H.buffer.length cb, .slice sa H.sites.length sc] 29)).alloc (.cells #[.int .i64 0, .int .i64 0, .int .i64 0, .int .i64 0, .int .i64 0, .int .i64 0, .int .i64 0, .int .i64 0, .int .i64 0, .int .i64 0, .int .i64 0, .int .i64 0, .int .i64 0, .int .i64 0, .int .i64 0, .int .i64 0] 127) := ⟨_, rfl⟩
  have A0 : Arr W w.heap.size (trD a0 a1 a2 a3 a4 a5 a6 a7 b0 b1 b2 b3 b4 b5 b6 b7) := by
    have f := Arr.new w (trD a0 a1 a2 a3 a4 a5 a6 a7 b0 b1 b2 b3 b4 b5 b6 b7)
    have f2 := f.later ((Below.refl _ _).alloc (Nat.le_refl _) (.cells #[.slice ao H.objs.length co, .slice aw H.weaks.length cw, .slice ab H.buffer.length cb, .slice sa H.sites.length sc] 29))
    have f3 := f2.later ((Below.refl _ _).alloc (Nat.le_refl _) (.cells #[.int .i64 0, .int .i64 0, .int .i64 0, .int .i64 0, .int .i64 0, .int .i64 0, .int .i64 0, .int .i64 0, .int .i64 0, .int .i64 0, .int .i64 0, .int .i64 0, .int .i64 0, .int .i64 0, .int .i64 0, .int .i64 0] 127))
    rw [hW]; exact f3
  have ck := A0.color h8 k hk
  generalize col (trD a0 a1 a2 a3 a4 a5 a6 a7 b0 b1 b2 b3 b4 b5 b6 b7) k = q at *
  rw [hW] at ck
  have hk8 : (k : Int) < 8 := by omega
  have hcn : ¬ q = 1 := hc
  clear A0 hc hW
  rw [trD_v]
  go_enter Try.func111, Try.ntmps111
  go_wp2
  refine bodyPost_ret (v := .agg #[.int .i64 a0, .int .i64 a1, .int .i64 a2, .int .i64 a3, .int .i64 a4, .int .i64 a5, .int .i64 a6, .int .i64 a7, .int .i64 b0, .int .i64 b1, .int .i64 b2, .int .i64 b3, .int .i64 b4, .int .i64 b5, .int .i64 b6, .int .i64 b7]) (by simp [results, Try.results111, go_sem, *]) rfl ⟨rfl, ?_⟩
  exact (((Below.refl _ _).alloc (Nat.le_refl _) _).alloc (by simp) _).alloc (by simp; omega) _
set_option maxHeartbeats 4000000 in
theorem scanFrom_black (v : Value) (H : HeapD) (hs : SmallH H) (h8 : H.objs.length = 8) (hf : ∀ o ∈ H.objs, ∀ z ∈ o.field, in64 z) (T : TrialD) (k : Nat) (w : World) (hT : Eight T) (hk : k < 8) (hc : col T k = 1) (hp : 0 < cnt T k) (h : RdH w v H) :
    Calls Try.prog 111 #[arrV T, v, .int .i64 (k : Int)] w fun e w' => e = .returned (arrV (spreadAll 1 0 H ⟨T.counts, T.colors.set k 0⟩ [(k : Int)])) ∧ Below w.heap.size w w' := by
  have CP0 : ∀ X, Below w.heap.size w X → _ := fun X hX => painted_top v H 0 1 hs h8 hf T k X hT hk (rdH_later h hX)
  have hR := paintT_eight 1 0 H T k hT hk
  have e : paintT 1 0 H T k = spreadAll 1 0 H ⟨T.counts, T.colors.set k 0⟩ [(k : Int)] := by unfold paintT; rw [if_neg (by omega)]
  rw [e] at CP0 hR
  have CP : Hid (∀ X, Below w.heap.size w X → _) := CP0
  clear CP0 e
  generalize spreadAll 1 0 H ⟨T.counts, T.colors.set k 0⟩ [(k : Int)] = R at *
  obtain ⟨ao, co, aw, cw, ab, cb, sa, sc, rfl, -, -, -, -⟩ := h
  obtain ⟨a0, a1, a2, a3, a4, a5, a6, a7, b0, b1, b2, b3, b4, b5, b6, b7, rfl⟩ := eight_trD hT
  obtain ⟨r0, r1, r2, r3, r4, r5, r6, r7, r8, r9, r10, r11, r12, r13, r14, r15, rfl⟩ := eight_trD hR
  obtain ⟨W, hW⟩ : ∃ W, W = ((w.alloc (.cells #[.int .i64 a0, .int .i64 a1, .int .i64 a2, .int .i64 a3, .int .i64 a4, .int .i64 a5, .int .i64 a6, .int .i64 a7, .int .i64 b0, .int .i64 b1, .int .i64 b2, .int .i64 b3, .int .i64 b4, .int .i64 b5, .int .i64 b6, .int .i64 b7] 127)).alloc (.cells #[.slice ao H.objs.length co, .slice aw H.weaks.length cw, .slice ab H.buffer.length cb, .slice sa H.sites.length sc] 29)).alloc (.cells #[.int .i64 0, .int .i64 0, .int .i64 0, .int .i64 0, .int .i64 0, .int .i64 0, .int .i64 0, .int .i64 0, .int .i64 0, .int .i64 0, .int .i64 0, .int .i64 0, .int .i64 0, .int .i64 0, .int .i64 0, .int .i64 0] 127) := ⟨_, rfl⟩
  have BW : Below w.heap.size w W := by rw [hW]; exact (((Below.refl _ _).alloc (Nat.le_refl _) _).alloc (by simp) _).alloc (by simp; omega) _
  have A0 : Arr W w.heap.size (trD a0 a1 a2 a3 a4 a5 a6 a7 b0 b1 b2 b3 b4 b5 b6 b7) := by
    have f := Arr.new w (trD a0 a1 a2 a3 a4 a5 a6 a7 b0 b1 b2 b3 b4 b5 b6 b7)
    have f2 := f.later ((Below.refl _ _).alloc (Nat.le_refl _) (.cells #[.slice ao H.objs.length co, .slice aw H.weaks.length cw, .slice ab H.buffer.length cb, .slice sa H.sites.length sc] 29))
    have f3 := f2.later ((Below.refl _ _).alloc (Nat.le_refl _) (.cells #[.int .i64 0, .int .i64 0, .int .i64 0, .int .i64 0, .int .i64 0, .int .i64 0, .int .i64 0, .int .i64 0, .int .i64 0, .int .i64 0, .int .i64 0, .int .i64 0, .int .i64 0, .int .i64 0, .int .i64 0, .int .i64 0] 127))
    rw [hW]; exact f3
  have Z0 : Arr W (w.heap.size + 2) (trD 0 0 0 0 0 0 0 0 0 0 0 0 0 0 0 0) := by
    have f := Arr.new ((w.alloc (.cells #[.int .i64 a0, .int .i64 a1, .int .i64 a2, .int .i64 a3, .int .i64 a4, .int .i64 a5, .int .i64 a6, .int .i64 a7, .int .i64 b0, .int .i64 b1, .int .i64 b2, .int .i64 b3, .int .i64 b4, .int .i64 b5, .int .i64 b6, .int .i64 b7] 127)).alloc (.cells #[.slice ao H.objs.length co, .slice aw H.weaks.length cw, .slice ab H.buffer.length cb, .slice sa H.sites.length sc] 29)) (trD 0 0 0 0 0 0 0 0 0 0 0 0 0 0 0 0)
    have f2 : Arr W ((w.alloc (.cells #[.int .i64 a0, .int .i64 a1, .int .i64 a2, .int .i64 a3, .int .i64 a4, .int .i64 a5, .int .i64 a6, .int .i64 a7, .int .i64 b0, .int .i64 b1, .int .i64 b2, .int .i64 b3, .int .i64 b4, .int .i64 b5, .int .i64 b6, .int .i64 b7] 127)).alloc (.cells #[.slice ao H.objs.length co, .slice aw H.weaks.length cw, .slice ab H.buffer.length cb, .slice sa H.sites.length sc] 29)).heap.size (trD 0 0 0 0 0 0 0 0 0 0 0 0 0 0 0 0) := by rw [hW]; exact f
    simpa using f2
  have ck := A0.color hT k hk
  have cc := A0.count hT k hk
  rw [hc] at ck
  generalize cnt (trD a0 a1 a2 a3 a4 a5 a6 a7 b0 b1 b2 b3 b4 b5 b6 b7) k = q at *
  rw [hW] at ck cc
  rw [trD_v, trD_v] at CP
  rw [trD_v, trD_v]
  have HZ : Hid (∀ X, Below W.heap.size W X → Arr X (w.heap.size + 2) (trD 0 0 0 0 0 0 0 0 0 0 0 0 0 0 0 0)) := fun X hX => Z0.later hX
  have HZ8 : Hid (Eight (trD 0 0 0 0 0 0 0 0 0 0 0 0 0 0 0 0)) := ⟨rfl, rfl⟩
  have HBW : Hid (∀ X, Below W.heap.size W X → Below w.heap.size w X) := fun X hX => BW.trans (hX.mono BW.size)
  have hk8 : (k : Int) < 8 := by omega
  clear hT hR Z0 A0 h8 hf hs hc
  go_enter Try.func111, Try.ntmps111
  go_wp2_with fail
  rw [← hW]
  clear hW ck cc
  refine (CP.out _ BW).mono ?_
  rintro e w1 ⟨rfl, b1⟩
  have HA : Hid _ := HZ.out _ b1
  obtain ⟨f0_, f1_, f2_, f3_, f4_, f5_, f6_, f7_, f8_, f9_, f10_, f11_, f12_, f13_, f14_, f15_⟩ := (set16_arr HA.out HZ8.out r0 r1 r2 r3 r4 r5 r6 r7 r8 r9 r10 r11 r12 r13 r14 r15).all
  have HB : Hid (Below w.heap.size w (set16 w1 (w.heap.size + 2) r0 r1 r2 r3 r4 r5 r6 r7 r8 r9 r10 r11 r12 r13 r14 r15)) := set16_below r0 r1 r2 r3 r4 r5 r6 r7 r8 r9 r10 r11 r12 r13 r14 r15 (HBW.out _ b1) (by omega)
  clear BW b1 CP HZ HBW
  go_wp2_with (refine wpList_store16 rfl rfl HA.out HZ8.out ?_)
  exact bodyPost_ret (v := .agg #[.int .i64 r0, .int .i64 r1, .int .i64 r2, .int .i64 r3, .int .i64 r4, .int .i64 r5, .int .i64 r6, .int .i64 r7, .int .i64 r8, .int .i64 r9, .int .i64 r10, .int .i64 r11, .int .i64 r12, .int .i64 r13, .int .i64 r14, .int .i64 r15]) (by simp [results, Try.results111, go_sem, *]) rfl ⟨rfl, HB.out⟩
theorem colored_le_of {T T' : TrialD} (h8 : Eight T) (h8' : Eight T') (h : ∀ j, j < 8 → col T' j = 1 → col T j = 1) : colored 1 T'.colors ≤ colored 1 T.colors := by
  obtain ⟨a0, a1, a2, a3, a4, a5, a6, a7, b0, b1, b2, b3, b4, b5, b6, b7, rfl⟩ := eight_form h8
  obtain ⟨x0, x1, x2, x3, x4, x5, x6, x7, y0, y1, y2, y3, y4, y5, y6, y7, rfl⟩ := eight_form h8'
  have e0 := h 0 (by omega)
  have e1 := h 1 (by omega)
  have e2 := h 2 (by omega)
  have e3 := h 3 (by omega)
  have e4 := h 4 (by omega)
  have e5 := h 5 (by omega)
  have e6 := h 6 (by omega)
  have e7 := h 7 (by omega)
  simp only [col, List.getD_cons_zero, List.getD_cons_succ] at e0 e1 e2 e3 e4 e5 e6 e7
  have one : ∀ x y : Int, (y = 1 → x = 1) → (if decide (y = 1) = true then 1 else 0) ≤ (if decide (x = 1) = true then 1 else 0) := fun x y hxy => by
    by_cases hy : y = 1
    · simp [hy, hxy hy]
    · simp [hy]
  have g0 := one _ _ e0
  have g1 := one _ _ e1
  have g2 := one _ _ e2
  have g3 := one _ _ e3
  have g4 := one _ _ e4
  have g5 := one _ _ e5
  have g6 := one _ _ e6
  have g7 := one _ _ e7
  simp only [colored, List.countP_cons, List.countP_nil]
  omega
theorem sc_colored {H : HeapD} {T0 T T' : TrialD} {A Q : Nat → Prop} {P S P' S' : List Nat} (h : Sc H T0 A Q T P S) (h' : Sc H T0 A Q T' P' S') (hP : ∀ x ∈ P, x ∈ P') (hS : ∀ x ∈ S, x ∈ S') : colored 1 T'.colors ≤ colored 1 T.colors :=
  colored_le_of h.e h'.e (fun j hj hg => by
    obtain ⟨q1, q2, q3, -⟩ := sc_gray h' hj hg
    rw [h.col j hj, if_neg (fun hm => q1 (hP j hm)), if_neg (fun hm => q2 (hS j hm))]
    exact q3)
set_option maxHeartbeats 16000000 in
theorem scanFrom_calls (v : Value) (H : HeapD) (hs : SmallH H) (h8 : H.objs.length = 8) (hf : ∀ o ∈ H.objs, ∀ z ∈ o.field, in64 z) (T0 : TrialD) (A Q : Nat → Prop) (hy : ScHyp H T0 A Q) :
    ∀ (n : Nat) (T : TrialD) (P S : List Nat) (k : Nat) (w : World), colored 1 T.colors ≤ n → Sc H T0 A Q T P S → k < 8 → (col T0 k = 1 → A k) → RdH w v H →
      Calls Try.prog 111 #[arrV T, v, .int .i64 (k : Int)] w fun e w' => ∃ T', e = .returned (arrV T') ∧ Scanned H T0 A Q P S k T' ∧ Below w.heap.size w w' := by
  intro n
  induction n with
  | zero =>
    intro T P S k w hn hd hk hAk h
    have hc : col T k ≠ 1 := fun hne => by
      have hl : k < T.colors.length := by have := hd.e.2; omega
      unfold col at hne
      rw [List.getD_eq_getElem?_getD, List.getElem?_eq_getElem hl, Option.getD_some] at hne
      have := colored_lt 1 2 T.colors k hl (by decide) hne
      omega
    refine (scanFrom_same v H T k w hd.e hk hc h).mono ?_
    rintro e w' ⟨rfl, hb⟩
    exact ⟨T, rfl, scanned_no hd hk hc, hb⟩
  | succ n ih =>
    intro T P S k w hn hd hk hAk h
    by_cases hc : col T k = 1
    case neg =>
      refine (scanFrom_same v H T k w hd.e hk hc h).mono ?_
      rintro e w' ⟨rfl, hb⟩
      exact ⟨T, rfl, scanned_no hd hk hc, hb⟩
    by_cases hp : 0 < cnt T k
    · refine (scanFrom_black v H hs h8 hf T k w hd.e hk hc hp h).mono ?_
      rintro e w' ⟨rfl, hb⟩
      exact ⟨_, rfl, scanned_black hy hd hk hc hp hAk, hb⟩
    have HR1 : Hid (∀ X, Below w.heap.size w X → RdH X v H) := fun X hX => rdH_later h hX
    have HST : Hid (ScMid H T0 A Q P S k 0 ⟨T.counts, T.colors.set k 2⟩) := scmid_start hd hk hc hp hAk
    have HO1 : Hid (colored 1 (TrialD.mk T.counts (T.colors.set k 2)).colors ≤ n) := by
      have hl : k < T.colors.length := by have := hd.e.2; omega
      have hne := hc
      unfold col at hne
      rw [List.getD_eq_getElem?_getD, List.getElem?_eq_getElem hl, Option.getD_some] at hne
      have := colored_lt 1 2 T.colors k hl (by decide) hne
      show colored 1 (T.colors.set k 2) ≤ n
      omega
    have hk2 : k < H.objs.length := by omega
    have CK : Hid (∀ X, Below w.heap.size w X → _) := fun X hX => iKids_calls v H k X (HR1.out X hX) hs hk2 (hf _ (List.getElem_mem hk2))
    rw [← kidsOf_at H k hk2] at CK
    have hkl := kidsOf_le H (k : Int) hs
    have HIH : Hid (∀ (T : TrialD) (P S : List Nat) (j : Nat) (w' : World), colored 1 T.colors ≤ n → Sc H T0 A Q T P S → j < 8 → (col T0 j = 1 → A j) → Below w.heap.size w w' → _) := fun T P S j w' h1 h2 h3 h4 h5 => ih T P S j w' h1 h2 h3 h4 (HR1.out w' h5)
    have e8 := hd.e
    obtain ⟨ao, co, aw, cw, ab, cb, sa, sc, rfl, -, -, -, -⟩ := h
    obtain ⟨a0, a1, a2, a3, a4, a5, a6, a7, b0, b1, b2, b3, b4, b5, b6, b7, rfl⟩ := eight_trD e8
    rw [h8] at CK HIH HR1 ⊢
    generalize H.weaks.length = nw at *
    generalize H.buffer.length = nb at *
    generalize H.sites.length = ns at *
    obtain ⟨W, hW⟩ : ∃ W, W = ((w.alloc (.cells #[.int .i64 a0, .int .i64 a1, .int .i64 a2, .int .i64 a3, .int .i64 a4, .int .i64 a5, .int .i64 a6, .int .i64 a7, .int .i64 b0, .int .i64 b1, .int .i64 b2, .int .i64 b3, .int .i64 b4, .int .i64 b5, .int .i64 b6, .int .i64 b7] 127)).alloc (.cells #[.slice ao 8 co, .slice aw nw cw, .slice ab nb cb, .slice sa ns sc] 29)).alloc (.cells #[.int .i64 0, .int .i64 0, .int .i64 0, .int .i64 0, .int .i64 0, .int .i64 0, .int .i64 0, .int .i64 0, .int .i64 0, .int .i64 0, .int .i64 0, .int .i64 0, .int .i64 0, .int .i64 0, .int .i64 0, .int .i64 0] 127) := ⟨_, rfl⟩
    have A0 : Arr W w.heap.size (trD a0 a1 a2 a3 a4 a5 a6 a7 b0 b1 b2 b3 b4 b5 b6 b7) := by
      have f := Arr.new w (trD a0 a1 a2 a3 a4 a5 a6 a7 b0 b1 b2 b3 b4 b5 b6 b7)
      have f2 := f.later ((Below.refl _ _).alloc (Nat.le_refl _) (.cells #[.slice ao 8 co, .slice aw nw cw, .slice ab nb cb, .slice sa ns sc] 29))
      have f3 := f2.later ((Below.refl _ _).alloc (Nat.le_refl _) (.cells #[.int .i64 0, .int .i64 0, .int .i64 0, .int .i64 0, .int .i64 0, .int .i64 0, .int .i64 0, .int .i64 0, .int .i64 0, .int .i64 0, .int .i64 0, .int .i64 0, .int .i64 0, .int .i64 0, .int .i64 0, .int .i64 0] 127))
      rw [hW]; exact f3
    have ck := A0.color e8 k hk
    have cc := A0.count e8 k hk
    have fk := A0.frozen (8 + k)
    obtain ⟨W1, hW1⟩ : ∃ W1, W1 = ((w.alloc (.cells ([.int .i64 a0, .int .i64 a1, .int .i64 a2, .int .i64 a3, .int .i64 a4, .int .i64 a5, .int .i64 a6, .int .i64 a7, .int .i64 b0, .int .i64 b1, .int .i64 b2, .int .i64 b3, .int .i64 b4, .int .i64 b5, .int .i64 b6, .int .i64 b7].set (8 + k) (.int .i64 2)).toArray 127)).alloc (.cells #[.slice ao 8 co, .slice aw nw cw, .slice ab nb cb, .slice sa ns sc] 29)).alloc (.cells #[.int .i64 0, .int .i64 0, .int .i64 0, .int .i64 0, .int .i64 0, .int .i64 0, .int .i64 0, .int .i64 0, .int .i64 0, .int .i64 0, .int .i64 0, .int .i64 0, .int .i64 0, .int .i64 0, .int .i64 0, .int .i64 0] 127) := ⟨_, rfl⟩
    have B1 : Below w.heap.size w W1 := by rw [hW1]; exact (((Below.refl _ _).alloc (Nat.le_refl _) _).alloc (by simp) _).alloc (by simp; omega) _
    have s1 : W1.heap.size = w.heap.size + 3 := by rw [hW1]; simp
    have ec : [.int .i64 a0, .int .i64 a1, .int .i64 a2, .int .i64 a3, .int .i64 a4, .int .i64 a5, .int .i64 a6, .int .i64 a7, .int .i64 b0, .int .i64 b1, .int .i64 b2, .int .i64 b3, .int .i64 b4, .int .i64 b5, .int .i64 b6, .int .i64 b7].set (8 + k) (.int .i64 2) = cells16 ⟨(trD a0 a1 a2 a3 a4 a5 a6 a7 b0 b1 b2 b3 b4 b5 b6 b7).counts, (trD a0 a1 a2 a3 a4 a5 a6 a7 b0 b1 b2 b3 b4 b5 b6 b7).colors.set k 2⟩ := by
      unfold cells16
      simp only [List.map_append, List.map_set]
      show (List.map intV (trD a0 a1 a2 a3 a4 a5 a6 a7 b0 b1 b2 b3 b4 b5 b6 b7).counts ++ List.map intV (trD a0 a1 a2 a3 a4 a5 a6 a7 b0 b1 b2 b3 b4 b5 b6 b7).colors).set (8 + k) (intV 2) = _
      rw [List.set_append_right _ _ (by simp [trD]), show 8 + k - (List.map intV (trD a0 a1 a2 a3 a4 a5 a6 a7 b0 b1 b2 b3 b4 b5 b6 b7).counts).length = k from by simp [trD]]
    have A1 : Arr W1 w.heap.size ⟨(trD a0 a1 a2 a3 a4 a5 a6 a7 b0 b1 b2 b3 b4 b5 b6 b7).counts, (trD a0 a1 a2 a3 a4 a5 a6 a7 b0 b1 b2 b3 b4 b5 b6 b7).colors.set k 2⟩ := by
      rw [ec] at hW1
      have f := Arr.new w ⟨(trD a0 a1 a2 a3 a4 a5 a6 a7 b0 b1 b2 b3 b4 b5 b6 b7).counts, (trD a0 a1 a2 a3 a4 a5 a6 a7 b0 b1 b2 b3 b4 b5 b6 b7).colors.set k 2⟩
      have f2 := f.later ((Below.refl _ _).alloc (Nat.le_refl _) (.cells #[.slice ao 8 co, .slice aw nw cw, .slice ab nb cb, .slice sa ns sc] 29))
      have f3 := f2.later ((Below.refl _ _).alloc (Nat.le_refl _) (.cells #[.int .i64 0, .int .i64 0, .int .i64 0, .int .i64 0, .int .i64 0, .int .i64 0, .int .i64 0, .int .i64 0, .int .i64 0, .int .i64 0, .int .i64 0, .int .i64 0, .int .i64 0, .int .i64 0, .int .i64 0, .int .i64 0] 127))
      rw [hW1]; exact f3
    have F1 : Four W1 (w.heap.size + 1) (.slice ao 8 co) (.slice aw nw cw) (.slice ab nb cb) (.slice sa ns sc) := by
      have f := Four.new (w.alloc (.cells ([.int .i64 a0, .int .i64 a1, .int .i64 a2, .int .i64 a3, .int .i64 a4, .int .i64 a5, .int .i64 a6, .int .i64 a7, .int .i64 b0, .int .i64 b1, .int .i64 b2, .int .i64 b3, .int .i64 b4, .int .i64 b5, .int .i64 b6, .int .i64 b7].set (8 + k) (.int .i64 2)).toArray 127)) (.slice ao 8 co) (.slice aw nw cw) (.slice ab nb cb) (.slice sa ns sc)
      have f3 := f.later ((Below.refl _ _).alloc (Nat.le_refl _) (.cells #[.int .i64 0, .int .i64 0, .int .i64 0, .int .i64 0, .int .i64 0, .int .i64 0, .int .i64 0, .int .i64 0, .int .i64 0, .int .i64 0, .int .i64 0, .int .i64 0, .int .i64 0, .int .i64 0, .int .i64 0, .int .i64 0] 127))
      rw [hW1]; simpa using f3
    have Z1 : Arr W1 (w.heap.size + 2) (trD 0 0 0 0 0 0 0 0 0 0 0 0 0 0 0 0) := by
      have f := Arr.new ((w.alloc (.cells ([.int .i64 a0, .int .i64 a1, .int .i64 a2, .int .i64 a3, .int .i64 a4, .int .i64 a5, .int .i64 a6, .int .i64 a7, .int .i64 b0, .int .i64 b1, .int .i64 b2, .int .i64 b3, .int .i64 b4, .int .i64 b5, .int .i64 b6, .int .i64 b7].set (8 + k) (.int .i64 2)).toArray 127)).alloc (.cells #[.slice ao 8 co, .slice aw nw cw, .slice ab nb cb, .slice sa ns sc] 29)) (trD 0 0 0 0 0 0 0 0 0 0 0 0 0 0 0 0)
      have f2 : Arr W1 ((w.alloc (.cells ([.int .i64 a0, .int .i64 a1, .int .i64 a2, .int .i64 a3, .int .i64 a4, .int .i64 a5, .int .i64 a6, .int .i64 a7, .int .i64 b0, .int .i64 b1, .int .i64 b2, .int .i64 b3, .int .i64 b4, .int .i64 b5, .int .i64 b6, .int .i64 b7].set (8 + k) (.int .i64 2)).toArray 127)).alloc (.cells #[.slice ao 8 co, .slice aw nw cw, .slice ab nb cb, .slice sa ns sc] 29)).heap.size (trD 0 0 0 0 0 0 0 0 0 0 0 0 0 0 0 0) := by rw [hW1]; exact f
      simpa using f2
    have HP1 : Hid (∀ X vk ks, Below W1.heap.size W1 X → ownI X (w.heap.size + 3) vk ks → PF w X (.slice ao 8 co) (.slice aw nw cw) (.slice ab nb cb) (.slice sa ns sc) ⟨(trD a0 a1 a2 a3 a4 a5 a6 a7 b0 b1 b2 b3 b4 b5 b6 b7).counts, (trD a0 a1 a2 a3 a4 a5 a6 a7 b0 b1 b2 b3 b4 b5 b6 b7).colors.set k 2⟩ vk ks) := fun X vk ks hX ho =>
      ⟨B1.trans (hX.mono B1.size), A1.later hX, F1.later hX, Z1.later hX, ho⟩
    have hk8 : (k : Int) < 8 := by omega
    clear A1 F1 Z1 ec
    generalize (⟨(trD a0 a1 a2 a3 a4 a5 a6 a7 b0 b1 b2 b3 b4 b5 b6 b7).counts, (trD a0 a1 a2 a3 a4 a5 a6 a7 b0 b1 b2 b3 b4 b5 b6 b7).colors.set k 2⟩ : TrialD) = T1 at HP1 HST HO1
    rw [hc] at ck
    generalize cnt (trD a0 a1 a2 a3 a4 a5 a6 a7 b0 b1 b2 b3 b4 b5 b6 b7) k = q at *
    rw [hW] at ck fk cc
    clear A0 hd hAk e8 hW hc
    rw [trD_v]
    obtain ⟨L, hL⟩ : ∃ L, (kidsOf H (k : Int)).length = L := ⟨_, rfl⟩
    have HL : Hid ((kidsOf H (k : Int)).length = L) := hL
    rw [hL] at hkl
    clear hL
    have Hs1 : Hid (W1.heap.size = w.heap.size + 3) := s1
    go_enter Try.func111, Try.ntmps111
    go_wp2_with fail
    rw [← hW1]
    clear hW1 ck fk cc s1
    refine (CK.out _ B1).mono ?_
    rintro e w2 ⟨vk, rfl, O2, b2⟩
    rw [Hs1.out] at O2
    obtain ⟨ka, kc, hvk, -⟩ := rdI_own O2
    rw [HL.out] at hvk
    subst hvk
    have HPF : Hid (PF w w2 (.slice ao 8 co) (.slice aw nw cw) (.slice ab nb cb) (.slice sa ns sc) T1 (.slice ka L kc) (kidsOf H (k : Int))) := HP1.out _ _ _ b2 O2
    clear b2 O2 CK HP1 B1
    go_wp2
    go_loopw [31] (fun i wr => ∃ (j : Nat) (T2 : TrialD), i = .int .i64 (j : Int) ∧ j ≤ L ∧ Hid (PF w wr (.slice ao 8 co) (.slice aw nw cw) (.slice ab nb cb) (.slice sa ns sc) T2 (.slice ka L kc) (kidsOf H (k : Int))) ∧ Hid (ScMid H T0 A Q P S k j T2) ∧ Hid (colored 1 T2.colors ≤ n)) (fun i _ => L - (intOf i).toNat)
    case atStart => exact ⟨0, T1, rfl, by omega, HPF, HST, HO1⟩
    case round =>
      clear HPF HST HO1
      obtain ⟨j, T2, rfl, hjL, HP, HM, HO⟩ := hrel
      by_cases hlt : j < L
      · have hj2 : j < (kidsOf H (k : Int)).length := by have := HL.out; omega
        obtain ⟨z, hz⟩ : ∃ z, (kidsOf H (k : Int))[j] = z := ⟨_, rfl⟩
        obtain ⟨P2, S2, hD, hAz, hz7, hnx⟩ := scmid_step hy HM.out hj2 z hz
        obtain ⟨m, rfl⟩ : ∃ m : Nat, z = (m : Int) := ⟨z.toNat, by omega⟩
        have hm : m < 8 := by omega
        rw [show ((m : Int)).toNat = m from by omega] at hAz hnx
        obtain ⟨ka2, kc2, hka, hr⟩ := rdI_own' HP.out.kids
        rw [HL.out] at hka
        simp only [Value.slice.injEq] at hka
        obtain ⟨rfl, -, rfl⟩ := hka
        obtain ⟨kg, ko, rfl, hkg, hcz⟩ := hr j hj2
        rw [hz] at hcz
        have hE3 := hD.e
        obtain ⟨p0, p1, p2, p3, p4, p5, p6, p7, p8, p9, p10, p11, p12, p13, p14, p15, rfl⟩ := eight_trD hE3
        have CI : Hid (∀ _ : Unit, _) := fun (_ : Unit) => HIH.out _ _ _ m wr HO.out hD hm hAz HP.out.bel
        rw [trD_v] at CI
        have v0 : wr.cell? ⟨w.heap.size + 1, 0, none⟩ = _ := HP.out.heap.cell 0
        have v1 : wr.cell? ⟨w.heap.size + 1, 1, none⟩ = _ := HP.out.heap.cell 1
        have v2 : wr.cell? ⟨w.heap.size + 1, 2, none⟩ = _ := HP.out.heap.cell 2
        have v3 : wr.cell? ⟨w.heap.size + 1, 3, none⟩ = _ := HP.out.heap.cell 3
        simp only [List.getElem?_toArray, List.getElem?_cons_zero, List.getElem?_cons_succ] at v0 v1 v2 v3
        have HA1 : Hid _ := HP.out.arr
        have hjl : (j : Int) < (L : Int) := by omega
        have HE3 : Hid _ := hE3
        have HD3 : Hid _ := hD
        have HNX : Hid _ := hnx
        clear hD hAz HM hE3 hnx hr hz7 hz
        go_wp2_with (refine wpList_load16 rfl HA1.out ?_)
        clear v0 v1 v2 v3 HA1 hcz
        refine (CI.out ()).mono ?_
        rintro e w3 ⟨T4, rfl, hP4, b3⟩
        have HM4 : Hid (ScMid H T0 A Q P S k (j + 1) T4) := HNX.out T4 hP4
        have PF3 := HP.out.later b3
        have E4 : Eight T4 := by obtain ⟨_, _, h, -⟩ := HM4.out; exact h.e
        have HO4 : Hid (colored 1 T4.colors ≤ n) := by
          obtain ⟨P3, S3, h4, h5, h6, -⟩ := hP4
          exact Nat.le_trans (sc_colored HD3.out h4 h5 h6) HO.out
        obtain ⟨q0, q1, q2, q3, q4, q5, q6, q7, q8, q9, q10, q11, q12, q13, q14, q15, rfl⟩ := eight_trD E4
        have HA3 : Hid _ := PF3.arr
        have HPN : Hid (PF w (set16 w3 w.heap.size q0 q1 q2 q3 q4 q5 q6 q7 q8 q9 q10 q11 q12 q13 q14 q15) (.slice ao 8 co) (.slice aw nw cw) (.slice ab nb cb) (.slice sa ns sc) (trD q0 q1 q2 q3 q4 q5 q6 q7 q8 q9 q10 q11 q12 q13 q14 q15) (.slice (some ⟨kg, ko, none⟩) L kc) (kidsOf H (k : Int))) := PF3.turn (set16_below q0 q1 q2 q3 q4 q5 q6 q7 q8 q9 q10 q11 q12 q13 q14 q15 PF3.bel (Nat.le_refl _)) (fun i hi => set16_other _ _ q0 q1 q2 q3 q4 q5 q6 q7 q8 q9 q10 q11 q12 q13 q14 q15 i hi) (set16_arr PF3.arr HE3.out q0 q1 q2 q3 q4 q5 q6 q7 q8 q9 q10 q11 q12 q13 q14 q15)
        rw [trD_v]
        clear PF3 HP b3 hP4 CI E4
        go_wp2_with (refine wpList_store16 rfl rfl HA3.out HE3.out ?_)
        go_roundw
        case rel => exact ⟨j + 1, trD q0 q1 q2 q3 q4 q5 q6 q7 q8 q9 q10 q11 q12 q13 q14 q15, by go_num, by omega, HPN, HM4, HO4⟩
        case measure => simp [intOf]; omega
      · have hLj : L ≤ j := by omega
        have HFIN : Hid (Scanned H T0 A Q P S k T2) := scmid_end HM.out (by rw [HL.out]; exact hLj)
        have E2 : Eight T2 := by obtain ⟨_, _, h, -⟩ := HM.out; exact h.e
        obtain ⟨p0, p1, p2, p3, p4, p5, p6, p7, p8, p9, p10, p11, p12, p13, p14, p15, rfl⟩ := eight_trD E2
        have HA5 : Hid _ := HP.out.arr
        have HR5 : Hid _ := HP.out.res
        have HZ5 : Hid (Eight (trD 0 0 0 0 0 0 0 0 0 0 0 0 0 0 0 0)) := ⟨rfl, rfl⟩
        obtain ⟨f0_, f1_, f2_, f3_, f4_, f5_, f6_, f7_, f8_, f9_, f10_, f11_, f12_, f13_, f14_, f15_⟩ := (set16_arr HP.out.res HZ5.out p0 p1 p2 p3 p4 p5 p6 p7 p8 p9 p10 p11 p12 p13 p14 p15).all
        have HB : Hid (Below w.heap.size w (set16 wr (w.heap.size + 2) p0 p1 p2 p3 p4 p5 p6 p7 p8 p9 p10 p11 p12 p13 p14 p15)) := set16_below p0 p1 p2 p3 p4 p5 p6 p7 p8 p9 p10 p11 p12 p13 p14 p15 HP.out.bel (by omega)
        clear HP HM HO E2
        go_wp2_with (first | (refine wpList_load16 rfl HA5.out ?_) | (refine wpList_store16 rfl rfl HR5.out HZ5.out ?_))
        exact bodyPost_ret (v := .agg #[.int .i64 p0, .int .i64 p1, .int .i64 p2, .int .i64 p3, .int .i64 p4, .int .i64 p5, .int .i64 p6, .int .i64 p7, .int .i64 p8, .int .i64 p9, .int .i64 p10, .int .i64 p11, .int .i64 p12, .int .i64 p13, .int .i64 p14, .int .i64 p15]) (by simp [results, Try.results111, go_sem, *]) rfl ⟨_, rfl, HFIN.out, HB.out⟩
theorem scanFrom_top (v : Value) (H : HeapD) (hs : SmallH H) (h8 : H.objs.length = 8) (hf : ∀ o ∈ H.objs, ∀ z ∈ o.field, in64 z) (T : TrialD) (k : Nat) (w : World) (hT : Eight T) (hk : k < 8) (h : RdH w v H) :
    Calls Try.prog 111 #[arrV T, v, .int .i64 (k : Int)] w fun e w' => e = .returned (arrV (scanT H T (k : Int))) ∧ Below w.heap.size w w' := by
  refine (scanFrom_calls v H hs h8 hf T (AS H T k) (QS H T k) (as_hyp H T k) _ T [] [] k w (Nat.le_refl _) (sc_start H T _ _ hT) hk (fun hc U h1 _ => h1 hc) h).mono ?_
  rintro e w' ⟨T', rfl, hp, hb⟩
  rw [scanned_all hs hT hk hp]
  exact ⟨rfl, hb⟩
theorem scanT_eight (H : HeapD) (hs : SmallH H) (T : TrialD) (k : Nat) (hT : Eight T) (hk : k < 8) : Eight (scanT H T (k : Int)) := by
  obtain ⟨P, S, h⟩ := scanT_fin H hs T k hT hk
  exact h.sc.e
theorem iScan_calls (v u : Value) (H : HeapD) (T : TrialD) (slot : Int) (w : World) (h : RdH w v H) (ht : RdT w u T) (hs : SmallH H) (hst : SmallT T) (hf : ∀ o ∈ H.objs, ∀ z ∈ o.field, in64 z) (R : TrialD) (hy : OkT H T slot → R = scanT H T slot) (hn : ¬ OkT H T slot → R = T) :
    Calls Try.prog 100 #[v, u, .int .i64 slot] w fun e w' => ∃ s : TSh, e = .returned s.v ∧ TM w' w.heap.size s R ∧ Below w.heap.size w w' := by
  have C : ∀ X, Below w.heap.size w X → Calls Try.prog 109 #[v, u, .int .i64 slot, .func (.func 111) #[] #[]] X fun e w' => ∃ s : TSh, e = .returned s.v ∧ TM w' X.heap.size s R ∧ Below X.heap.size X w' := fun X hX => by
    by_cases hok : OkT H T slot
    · rw [hy hok]
      obtain ⟨k, rfl⟩ : ∃ k : Nat, slot = (k : Int) := ⟨slot.toNat, by have := hok.lo; omega⟩
      have hk : k < 8 := by have := hok.hi; omega
      have hT : Eight T := ⟨hok.counts, hok.colors⟩
      exact iTried_yes v u _ tryScan H T _ k X (rdH_later h hX) (rdT_later ht hX) hs hst hok (scanT_eight H hs T k hT hk) (fun Y hY => scanFrom_top v H hs hok.objs hf T k Y hT hk (rdH_later (rdH_later h hX) hY))
    · rw [hn hok]
      exact iTried_no v u _ H T slot X (rdH_later h hX) (rdT_later ht hX) hs hst hok
  have CT : Hid (∀ X, Below w.heap.size w X → _) := C
  clear C hy hn
  obtain ⟨ao, co, aw, cw, ab, cb, sa, sc, rfl, -, -, -, -⟩ := h
  obtain ⟨xa, xc, ya, yc, rfl, -, -⟩ := ht
  obtain ⟨W, hW⟩ : ∃ W, W = ((w.alloc (.cells #[.slice ao H.objs.length co, .slice aw H.weaks.length cw, .slice ab H.buffer.length cb, .slice sa H.sites.length sc] 29)).alloc (.cells #[.slice xa T.counts.length xc, .slice ya T.colors.length yc] 77)).alloc (.cells #[.slice none 0 0, .slice none 0 0] 77) := ⟨_, rfl⟩
  have BW : Below w.heap.size w W := by rw [hW]; exact (((Below.refl _ _).alloc (Nat.le_refl _) _).alloc (by simp) _).alloc (by simp; omega) _
  have hWs : W.heap.size = w.heap.size + 3 := by rw [hW]; simp
  have FR : Two W (w.heap.size + 2) (.slice none 0 0) (.slice none 0 0) := by
    have f := Two.new ((w.alloc (.cells #[.slice ao H.objs.length co, .slice aw H.weaks.length cw, .slice ab H.buffer.length cb, .slice sa H.sites.length sc] 29)).alloc (.cells #[.slice xa T.counts.length xc, .slice ya T.colors.length yc] 77)) (.slice none 0 0) (.slice none 0 0)
    rw [← hW] at f
    simpa using f
  have HFR : Hid (∀ X, Below W.heap.size W X → Two X (w.heap.size + 2) (.slice none 0 0) (.slice none 0 0)) := fun X hX => FR.later hX (by omega)
  have HBW : Hid (∀ X, Below W.heap.size W X → Below w.heap.size w X) := fun X hX => BW.trans (hX.mono BW.size)
  have HWs : Hid (W.heap.size = w.heap.size + 3) := hWs
  clear FR hWs hs hst hf
  go_enter Try.func100, Try.ntmps100
  go_wp2_with fail
  rw [← hW]
  clear hW
  refine (CT.out _ BW).mono ?_
  rintro e w1 ⟨s, rfl, M1, b1⟩
  have F1 := HFR.out _ b1
  have c0 : w1.cell? ⟨w.heap.size + 2, 0, none⟩ = some (.slice none 0 0) := F1.cell 0
  have c1 : w1.cell? ⟨w.heap.size + 2, 1, none⟩ = some (.slice none 0 0) := F1.cell 1
  have f0 := F1.frozen 0
  have f1 := F1.frozen 1
  obtain ⟨k0, k1⟩ := setTwo_cell (.slice s.a s.n s.c) (.slice s.b s.m s.d) F1
  have HT : Hid (TM (setTwo w1 (w.heap.size + 2) (.slice s.a s.n s.c) (.slice s.b s.m s.d)) w.heap.size s R) := by
    have hle : w.heap.size ≤ W.heap.size := by have := HWs.out; omega
    exact (M1.same (fun g hg _ => setTwo_other _ _ _ _ g (by have := HWs.out; omega))).mono hle
  have HB : Hid (Below w.heap.size w (setTwo w1 (w.heap.size + 2) (.slice s.a s.n s.c) (.slice s.b s.m s.d))) := by
    unfold setTwo
    exact ((HBW.out _ b1).setCell (by simp) _).setCell (by simp) _
  unfold setTwo at HT HB k0 k1
  clear F1 M1 BW b1 CT
  have hv : s.v = .agg #[.slice s.a s.n s.c, .slice s.b s.m s.d] := rfl
  rw [hv]
  go_wp2
  exact bodyPost_ret (v := .agg #[.slice s.a s.n s.c, .slice s.b s.m s.d]) (by simp [results, Try.results100, go_sem, *]) rfl ⟨s, rfl, HT.out, HB.out⟩
end Go.Proofs.Ytnjplfofcjonhaa

namespace Go.Proofs.Ytnjplfofcjonhaa
open Go.RowKit
set_option linter.unusedVariables false
set_option maxRecDepth 100000
theorem opIndexAt {t i j : Tmp} {ty : TypeId} {pos : String} {af : Array Edge} {a : Act} {X : World} {K : Act → World → Prop} {Q : Exit → Act → World → Prop} {g off n c k : Nat} (h1 : a.eval (.tmp i) = .slice (some ⟨g, off, none⟩) n c) (h2 : a.eval (.tmp j) = .int .i64 (k : Int)) (hk : k < n) (hK : K (a.put (some t) (.pointer (some ⟨g, off + k * 8, none⟩))) X) :
    Oper.wp Try.prog ⟨some t, .indexAddr 24 (.tmp i) (.tmp j), ty, pos, af, none⟩ a X K Q := by
  have e1 := ev_tmp h1
  have e2 := ev_tmp h2
  go_simp; exact hK
theorem opNew1 {t i : Tmp} {ty : TypeId} {pos : String} {af : Array Edge} {a : Act} {X : World} {K : Act → World → Prop} {Q : Exit → Act → World → Prop} {z : Int} (h1 : a.eval (.tmp i) = .int .i64 z) (hK : K (a.put (some t) (.slice (some ⟨X.heap.size, 0, none⟩) 1 1)) (X.alloc (.cells #[.int .i64 z] 3))) :
    Oper.wp Try.prog ⟨some t, .buildSlice 26 1 #[(0, .tmp i)], ty, pos, af, none⟩ a X K Q := by
  have e1 := ev_tmp h1
  go_simp; exact hK
theorem opStoreRow {i j : Tmp} {ty : TypeId} {pos : String} {af : Array Edge} {a : Act} {X : World} {K : Act → World → Prop} {Q : Exit → Act → World → Prop} {g p n c : Nat} {u : Value} {x : Option Addr} (h1 : a.eval (.tmp i) = .pointer (some ⟨g, p, none⟩)) (h2 : a.eval (.tmp j) = .slice x n c) (hc : X.cell? ⟨g, p, none⟩ = some u) (hf : X.frozen? ⟨g, p, none⟩ = false) (hK : K a (X.setCell ⟨g, p, none⟩ (.slice x n c))) :
    Oper.wp Try.prog ⟨none, .store 26 (.tmp i) (.tmp j), ty, pos, af, none⟩ a X K Q := by
  have e1 := ev_tmp h1
  have e2 := ev_tmp h2
  go_simp; exact hK
theorem wp_appendL {w : World} {o : Oper} {a : Act} {K : Act → World → Prop} {Q : Exit → Act → World → Prop} (s x : Operand)
    (ho : o.op = .call { callee := .builtin .append, args := #[s, x], argTypes := #[26, 26] }) (B : Nat) (v : Value) (P : List Int) (hs : a.eval s = v) (hown : ownI w B v P)
    (ad : Addr) (z : Int) (hx : a.eval x = .slice (some ad) 1 1) (hsrc : w.cell? ad = some (.int .i64 z)) (hlen : P.length ≤ 16777215) (hB : B ≤ w.heap.size)
    (h : ∀ v' w', ownI w' B v' (P ++ [z]) → w.heap.size ≤ w'.heap.size → (∀ i, i < w.heap.size → v.ownBlock ≠ some i → w'.heap[i]? = w.heap[i]?) → (v'.ownBlock = v.ownBlock ∨ v'.ownBlock = some w.heap.size) → (∀ C w0, Below C w0 w → C ≤ B → Below C w0 w') → K (a.put o.dst v') w') : o.wp Try.prog a w K Q := by
  obtain ⟨i0, hi, hz0, hz1, hz2⟩ := info_parts infoI
  have hlt := World.ownsRow.lt hown
  obtain ⟨v', w', hr, hown', hgrow, _, hat⟩ := run_append_own_at (P := Try.prog) w B 26 o.type 3 i0 (.int .i64 0) 1 8 Try.underlying26 hi hz0 hz1 hz2 rfl (by decide) v P.length (P.map intV) hown ad 1 1 [intV z] rfl
    (fun j u hj => by
      match j, hj with
      | 0, hj =>
        simp at hj
        subst hj
        rw [show ad.add 0 = ad from by cases ad; simp [Addr.add]]
        exact hsrc
      | j + 1, hj => simp at hj)
    (fun u hu => by simp at hu; subst hu; rfl) (by unfold maxLen; omega) (by omega) hB
  unfold Oper.wp execOp
  simp only [ho, resolve, invoke, builtin, Sem.run_bind, Sem.run_pure, Result.andThen_ok, List.map_toArray, List.map_cons, List.map_nil, hs, hx, hr]
  refine h v' w' ?_ hgrow.size (fun i hi hne => hgrow.block i hi (fun e => hne e.symm)) hat (fun C w0 hb hC => ?_)
  · unfold ownI
    rw [List.length_append, List.map_append]
    exact hown'
  · exact ⟨hgrow.os.trans hb.os, hgrow.tape.trans hb.tape, hgrow.output.trans hb.output, Nat.le_trans hb.size hgrow.size, fun k hk => (hgrow.block k (by omega) (fun e => by have := (hlt k e.symm).1; omega)).trans (hb.block k hk)⟩
structure TI (W wr : World) (gt : Nat) (vx vy : Value) (xs ys : List Int) : Prop where
  bel : Below gt W wr
  x : ownI wr (gt + 1) vx xs
  y : ownI wr (gt + 1) vy ys
  dif : Dif2 vx vy
  t : Two wr gt vx vy
theorem ti_x {W wr X : World} {gt : Nat} {vx vy vx' : Value} {xs ys xs' : List Int} (h : TI W wr gt vx vy xs ys) (hb : Below gt W X) (ht : Two X gt vx vy) (hy : ownI X (gt + 1) vy ys) (hx : ownI X (gt + 1) vx' xs') (hat : vx'.ownBlock = vx.ownBlock ∨ ∃ q, vx'.ownBlock = some q ∧ wr.heap.size ≤ q) : TI W (X.setCell ⟨gt, 0, none⟩ vx') gt vx' vy xs' ys := by
  have oth : ∀ g, g ≠ gt → (X.setCell ⟨gt, 0, none⟩ vx').heap[g]? = X.heap[g]? := fun g hg => heap_setCell_other _ _ _ _ (by exact hg)
  refine ⟨hb.setCell (Nat.le_refl _) _, ownI_same hx (fun g hg => oth g (by have := (ownI_lt hx g hg).1; omega)), ownI_same hy (fun g hg => oth g (by have := (ownI_lt hy g hg).1; omega)), fun g h1 h2 => ?_, ?_⟩
  · rcases hat with e | ⟨q, e, hq⟩
    · exact h.dif g (by rw [← e]; exact h1) h2
    · rw [e] at h1
      injection h1 with h1
      have := (ownI_lt h.y g h2).2
      omega
  · have ht' : X.heap[gt]? = some (.cells #[vx, vy] 77 (0, 0)) := ht
    show (X.setCell ⟨gt, 0, none⟩ vx').heap[gt]? = _
    simp [World.setCell, ht', Array.getElem?_modify]
theorem ti_y {W wr X : World} {gt : Nat} {vx vy vy' : Value} {xs ys ys' : List Int} (h : TI W wr gt vx vy xs ys) (hb : Below gt W X) (ht : Two X gt vx vy) (hx : ownI X (gt + 1) vx xs) (hy : ownI X (gt + 1) vy' ys') (hat : vy'.ownBlock = vy.ownBlock ∨ ∃ q, vy'.ownBlock = some q ∧ wr.heap.size ≤ q) : TI W (X.setCell ⟨gt, 1, none⟩ vy') gt vx vy' xs ys' := by
  have oth : ∀ g, g ≠ gt → (X.setCell ⟨gt, 1, none⟩ vy').heap[g]? = X.heap[g]? := fun g hg => heap_setCell_other _ _ _ _ (by exact hg)
  refine ⟨hb.setCell (Nat.le_refl _) _, ownI_same hx (fun g hg => oth g (by have := (ownI_lt hx g hg).1; omega)), ownI_same hy (fun g hg => oth g (by have := (ownI_lt hy g hg).1; omega)), fun g h1 h2 => ?_, ?_⟩
  · rcases hat with e | ⟨q, e, hq⟩
    · exact h.dif g h1 (by rw [← e]; exact h2)
    · rw [e] at h2
      injection h2 with h2
      have := (ownI_lt h.x g h1).2
      omega
  · have ht' : X.heap[gt]? = some (.cells #[vx, vy] 77 (0, 0)) := ht
    show (X.setCell ⟨gt, 1, none⟩ vy').heap[gt]? = _
    simp [World.setCell, ht', Array.getElem?_modify]
structure TJ (W wr : World) (gt : Nat) (vx vy : Value) (xs ys : List Int) (dn : Nat → Prop) (X : World) : Prop where
  bel : Below gt W X
  t : Two X gt vx vy
  y : ownI X (gt + 1) vy ys
  ge : wr.heap.size ≤ X.heap.size
  x : ¬ dn 9 → ownI X (gt + 1) vx xs
theorem TJ.later {W wr X Y : World} {gt : Nat} {vx vy : Value} {xs ys : List Int} {dn : Nat → Prop} {i : Nat} (h : TJ W wr gt vx vy xs ys dn X) (hb : Below X.heap.size X Y) : TJ W wr gt vx vy xs ys (fun j => dn j ∨ j = i) Y :=
  ⟨h.bel.trans (hb.mono (Nat.le_of_lt h.t.lt)), h.t.same (hb.block gt h.t.lt), ownI_later h.y hb, Nat.le_trans h.ge hb.size, fun hn => ownI_later (h.x (fun h => hn (.inl h))) hb⟩
def RN (wr : World) (gt gh : Nat) (vx : Value) (xs : List Int) (g off n co k : Nat) (z : Int) : Nat → World → Value → Prop
  | 0, X, v => v = .pointer (some ⟨gt, 0, none⟩)
  | 1, X, v => v = vx
  | 2, X, v => v = .pointer (some ⟨gh, 0, none⟩)
  | 3, X, v => v = .slice (some ⟨g, off, none⟩) n co
  | 4, X, v => v = .int .i64 (k : Int)
  | 5, X, v => v = .pointer (some ⟨g, off + k * 8, none⟩)
  | 6, X, v => v = .pointer (some ⟨g, off + k * 8 + 5, none⟩)
  | 7, X, v => v = .int .i64 z
  | 8, X, v => ∃ q, v = .slice (some ⟨q, 0, none⟩) 1 1 ∧ wr.heap.size ≤ q ∧ X.heap[q]? = some (.cells #[.int .i64 z] 3 (0, 0))
  | 9, X, v => ownI X (gt + 1) v (xs ++ [z]) ∧ (v.ownBlock = vx.ownBlock ∨ ∃ q, v.ownBlock = some q ∧ wr.heap.size ≤ q)
  | 10, X, v => v = .pointer (some ⟨gt, 0, none⟩)
  | _, _, _ => True
theorem rn_mono {wr : World} {gt gh : Nat} {vx : Value} {xs : List Int} {g off n co k : Nat} {z : Int} (i : Nat) (X Y : World) (v : Value) (h : RN wr gt gh vx xs g off n co k z i X v) (hb : Below X.heap.size X Y) : RN wr gt gh vx xs g off n co k z i Y v := by
  match i, h with
  | 0, h => exact h
  | 1, h => exact h
  | 2, h => exact h
  | 3, h => exact h
  | 4, h => exact h
  | 5, h => exact h
  | 6, h => exact h
  | 7, h => exact h
  | 8, ⟨q, h1, h2, h3⟩ => exact ⟨q, h1, h2, (hb.block q (Array.getElem?_eq_some_iff.1 h3).1).trans h3⟩
  | 9, ⟨h1, h2⟩ => exact ⟨ownI_later h1 hb, h2⟩
  | 10, h => exact h
  | m + 11, _ => exact trivial
theorem rn_app {wr : World} {gt gh : Nat} {vx : Value} {xs : List Int} {g off n co k : Nat} {z : Int} (i : Nat) (hi : i ≠ 9) (X Y : World) (v : Value) (h : RN wr gt gh vx xs g off n co k z i X v) (hv : ∀ q, vx.ownBlock = some q → q < wr.heap.size) (oth : ∀ i, i < X.heap.size → vx.ownBlock ≠ some i → Y.heap[i]? = X.heap[i]?) : RN wr gt gh vx xs g off n co k z i Y v := by
  match i, h with
  | 0, h => exact h
  | 1, h => exact h
  | 2, h => exact h
  | 3, h => exact h
  | 4, h => exact h
  | 5, h => exact h
  | 6, h => exact h
  | 7, h => exact h
  | 8, ⟨q, h1, h2, h3⟩ => exact ⟨q, h1, h2, (oth q (Array.getElem?_eq_some_iff.1 h3).1 (fun e => by have := hv q e; omega)).trans h3⟩
  | 9, _ => exact absurd rfl hi
  | 10, h => exact h
  | m + 11, _ => exact trivial
def trialNew (H : HeapD) : TrialD := ⟨(H.objs.take 8).map (·.count), (H.objs.take 8).map (fun _ => 0)⟩
theorem ti_start (W : World) : TI W (W.alloc (.cells #[.slice none 0 0, .slice none 0 0] 77)) W.heap.size (.slice none 0 0) (.slice none 0 0) [] [] :=
  ⟨(Below.refl _ _).alloc (Nat.le_refl _) _, ownI_nil _ _, ownI_nil _ _, fun g h => (by simp [Value.ownBlock] at h), heap_alloc_new W _⟩
theorem cnt_step (H : HeapD) (j : Nat) (h : j < H.objs.length) : (H.objs.take (j + 1)).map (·.count) = (H.objs.take j).map (·.count) ++ [H.objs[j].count] := by
  rw [List.take_succ_eq_append_getElem h, List.map_append]; rfl
theorem zer_step (H : HeapD) (j : Nat) (h : j < H.objs.length) : (H.objs.take (j + 1)).map (fun _ => (0 : Int)) = (H.objs.take j).map (fun _ => (0 : Int)) ++ [0] := by
  rw [List.take_succ_eq_append_getElem h, List.map_append]; rfl
set_option maxHeartbeats 4000000 in
theorem sTrialNew_calls (v : Value) (H : HeapD) (w : World) (h : RdH w v H) (hs : SmallH H) :
    Calls Try.prog 60 #[v] w fun e w' => ∃ s : TSh, e = .returned s.v ∧ TM w' w.heap.size s (trialNew H) ∧ Below w.heap.size w w' := by
  obtain ⟨ao, co, aw, cw, ab, cb, sa, sc, rfl, ro, -, -, -⟩ := h
  have hn := hs.objs
  clear hs
  obtain ⟨W, hW⟩ : ∃ W, W = (w.alloc (.cells #[.slice ao H.objs.length co, .slice aw H.weaks.length cw, .slice ab H.buffer.length cb, .slice sa H.sites.length sc] 29)).alloc (.cells #[.slice none 0 0, .slice none 0 0] 77) := ⟨_, rfl⟩
  have BW : Below w.heap.size w W := by rw [hW]; exact ((Below.refl _ _).alloc (Nat.le_refl _) _).alloc (by simp) _
  have hWs : W.heap.size = w.heap.size + 2 := by rw [hW]; simp
  have p0 : W.cell? ⟨w.heap.size, 0, none⟩ = some (.slice ao H.objs.length co) := by
    have f1 := Four.new w (.slice ao H.objs.length co) (.slice aw H.weaks.length cw) (.slice ab H.buffer.length cb) (.slice sa H.sites.length sc)
    have hb2 : Below (w.heap.size + 1) (w.alloc (.cells #[.slice ao H.objs.length co, .slice aw H.weaks.length cw, .slice ab H.buffer.length cb, .slice sa H.sites.length sc] 29)) W := by rw [hW]; exact (Below.refl _ _).alloc (by simp) _
    exact (hb2.cell (p := ⟨w.heap.size, 0, none⟩) (by simp)).trans (f1.cell 0)
  have FR : Two W (w.heap.size + 1) (.slice none 0 0) (.slice none 0 0) := by
    rw [hW]
    have f1 := Two.new (w.alloc (.cells #[.slice ao H.objs.length co, .slice aw H.weaks.length cw, .slice ab H.buffer.length cb, .slice sa H.sites.length sc] 29)) (.slice none 0 0) (.slice none 0 0)
    simpa using f1
  have HP : Hid (∀ X, Below W.heap.size W X → X.cell? ⟨w.heap.size, 0, none⟩ = some (.slice ao H.objs.length co)) := fun X hX => (hX.cell (p := ⟨w.heap.size, 0, none⟩) (by show w.heap.size < _; omega)).trans p0
  have HR : Hid (∀ X, Below W.heap.size W X → RdO X ao H.objs) := fun X hX => rdO_later (rdO_later ro BW) hX
  have HFR : Hid (∀ X, Below W.heap.size W X → Two X (w.heap.size + 1) (.slice none 0 0) (.slice none 0 0)) := fun X hX => FR.later hX (by omega)
  have HWs : Hid (W.heap.size = w.heap.size + 2) := hWs
  have HBW : Hid (Below w.heap.size w W) := BW
  have HT0 : Hid _ := ti_start W
  have HCS : Hid (∀ (j : Nat) (h : j < H.objs.length), (H.objs.take (j + 1)).map (·.count) = (H.objs.take j).map (·.count) ++ [H.objs[j].count]) := fun j h => cnt_step H j h
  have HZS : Hid (∀ (j : Nat) (h : j < H.objs.length), (H.objs.take (j + 1)).map (fun _ => (0 : Int)) = (H.objs.take j).map (fun _ => (0 : Int)) ++ [0]) := fun j h => zer_step H j h
  have HE : Hid (∀ j : Nat, j ≤ 8 → j ≤ H.objs.length → (j = 8 ∨ j = H.objs.length) → trialNew H = ⟨(H.objs.take j).map (·.count), (H.objs.take j).map (fun _ => 0)⟩) := by
    intro j h8 hl hj
    unfold trialNew
    rcases hj with rfl | rfl
    · rfl
    · rw [List.take_of_length_le h8, List.take_of_length_le (Nat.le_refl _)]
  obtain ⟨n, hnn⟩ : ∃ n, H.objs.length = n := ⟨_, rfl⟩
  have Hn : Hid (H.objs.length = n) := hnn
  rw [hnn] at hn hW HP HE ⊢
  obtain ⟨gt, hgt⟩ : ∃ gt, W.heap.size = gt := ⟨_, rfl⟩
  have Hgt : Hid (W.heap.size = gt) := hgt
  rw [hgt] at HP HR HFR HT0
  clear ro p0 FR BW hnn
  go_enter Try.func60, Try.ntmps60
  go_wp2
  rw [← hW, ← hWs, hgt]
  clear hW hWs hgt
  go_loopw [4] (fun i wr => ∃ (j : Nat) (xa : Option Addr) (xc : Nat) (ya : Option Addr) (yc : Nat), i = .int .i64 (j : Int) ∧ j ≤ 8 ∧ j ≤ n ∧ Hid (TI W wr gt (.slice xa j xc) (.slice ya j yc) ((H.objs.take j).map (·.count)) ((H.objs.take j).map (fun _ => 0)))) (fun i _ => n - (intOf i).toNat)
  case atStart => exact ⟨0, none, 0, none, 0, rfl, by omega, by omega, HT0⟩
  case round =>
    obtain ⟨j, xa, xc, ya, yc, rfl, hj8, hjn, HI⟩ := hrel
    have p0 := HP.out _ HI.out.bel
    by_cases hlt : j < n
    · by_cases hlt8 : j < 8
      · have hj2 : j < H.objs.length := by have := Hn.out; omega
        obtain ⟨g, off, f, fc, rfl, hg, hc, -⟩ := HR.out W (Below.refl _ _) j hj2
        have HXS : Hid (_ = _) := HCS.out j hj2
        have HYS : Hid (_ = _) := HZS.out j hj2
        obtain ⟨z, hz⟩ : ∃ z, H.objs[j].count = z := ⟨_, rfl⟩
        have hc5 := hc.c5
        rw [hz] at hc5 HXS
        have HC : Hid (∀ X, Below gt W X → X.cell? ⟨g, off + j * 8 + 5, none⟩ = some (.int .i64 z)) := fun X hX => (hX.cell (p := ⟨g, off + j * 8 + 5, none⟩) (by show g < gt; have := Hgt.out; omega)).trans hc5
        have hll : ((H.objs.take j).map (fun o : ObjD => o.count)).length = j := by rw [List.length_map, List.length_take]; omega
        have hly0 : ((H.objs.take j).map (fun _ : ObjD => (0 : Int))).length = j := by rw [List.length_map, List.length_take]; omega
        obtain ⟨XS, hXS⟩ : ∃ XS, (H.objs.take j).map (fun o : ObjD => o.count) = XS := ⟨_, rfl⟩
        obtain ⟨YS, hYS⟩ : ∃ YS, (H.objs.take j).map (fun _ : ObjD => (0 : Int)) = YS := ⟨_, rfl⟩
        rw [hXS] at HI HXS hll
        rw [hYS] at HI HYS hly0
        have HLX : Hid (XS.length = j) := hll
        have HLY : Hid (YS.length = j) := hly0
        clear hc hc5 hz hXS hYS hll hly0
        go_wp2
        refine wp_region_step 11 (by kernel_rfl) (by kernel_rfl) (TJ W wr gt (.slice xa j xc) (.slice ya j yc) XS YS) (RN wr gt w.heap.size (.slice xa j xc) XS g off n co j z) (fun _ _ _ _ => True) ⟨HI.out.bel.drew, HI.out.t, HI.out.y, Nat.le_refl _, fun _ => HI.out.x⟩ ?_ ?_
        · intro i o hi ho a X dn hJ hA hbn hnot hdep
          match i, hi, ho with
          | 0, _, ho =>
            obtain rfl := Option.some.inj ho
            exact opFieldT 0 (by omega) (alike_at hA (t := 3) (by kernel_rfl)) ⟨_, rfl, hJ.later (Below.refl _ _), rfl, fun q hq _ t ht => ⟨hbn.yields q hq t ht, trivial, trivial⟩⟩
          | 1, _, ho =>
            obtain rfl := Option.some.inj ho
            have e1 : a.eval (.tmp 17) = .pointer (some ⟨gt, 0, none⟩) := hbn.yields 0 (hdep ⟨0, .data⟩ (by simp) rfl) 17 rfl
            exact opLoadI e1 (hJ.t.cell 0) ⟨_, rfl, hJ.later (Below.refl _ _), rfl, fun q hq _ t ht => ⟨hbn.yields q hq t ht, trivial, trivial⟩⟩
          | 2, _, ho =>
            obtain rfl := Option.some.inj ho
            exact opField 0 (by omega) (alike_at hA (t := 1) (by kernel_rfl)) ⟨_, rfl, hJ.later (Below.refl _ _), rfl, fun q hq _ t ht => ⟨hbn.yields q hq t ht, trivial, trivial⟩⟩
          | 3, _, ho =>
            obtain rfl := Option.some.inj ho
            have e1 : a.eval (.tmp 19) = .pointer (some ⟨w.heap.size, 0, none⟩) := hbn.yields 2 (hdep ⟨2, .data⟩ (by simp) rfl) 19 rfl
            exact opLoadO e1 (HP.out X hJ.bel) ⟨_, rfl, hJ.later (Below.refl _ _), rfl, fun q hq _ t ht => ⟨hbn.yields q hq t ht, trivial, trivial⟩⟩
          | 4, _, ho =>
            obtain rfl := Option.some.inj ho
            exact opMove (alike_at hA (t := 4) (by kernel_rfl)) ⟨_, rfl, hJ.later (Below.refl _ _), rfl, fun q hq _ t ht => ⟨hbn.yields q hq t ht, trivial, trivial⟩⟩
          | 5, _, ho =>
            obtain rfl := Option.some.inj ho
            have e1 : a.eval (.tmp 20) = .slice (some ⟨g, off, none⟩) n co := hbn.yields 3 (hdep ⟨3, .data⟩ (by simp) rfl) 20 rfl
            have e2 : a.eval (.tmp 21) = .int .i64 (j : Int) := hbn.yields 4 (hdep ⟨4, .data⟩ (by simp) rfl) 21 rfl
            exact opIndexAt e1 e2 hlt ⟨_, rfl, hJ.later (Below.refl _ _), rfl, fun q hq _ t ht => ⟨hbn.yields q hq t ht, trivial, trivial⟩⟩
          | 6, _, ho =>
            obtain rfl := Option.some.inj ho
            have e1 : a.eval (.tmp 22) = .pointer (some ⟨g, off + j * 8, none⟩) := hbn.yields 5 (hdep ⟨5, .data⟩ (by simp) rfl) 22 rfl
            exact opFieldO5 e1 ⟨_, rfl, hJ.later (Below.refl _ _), rfl, fun q hq _ t ht => ⟨hbn.yields q hq t ht, trivial, trivial⟩⟩
          | 7, _, ho =>
            obtain rfl := Option.some.inj ho
            have e1 : a.eval (.tmp 23) = .pointer (some ⟨g, off + j * 8 + 5, none⟩) := hbn.yields 6 (hdep ⟨6, .data⟩ (by simp) rfl) 23 rfl
            exact opLoadInt e1 (HC.out X hJ.bel) ⟨_, rfl, hJ.later (Below.refl _ _), rfl, fun q hq _ t ht => ⟨hbn.yields q hq t ht, trivial, trivial⟩⟩
          | 8, _, ho =>
            obtain rfl := Option.some.inj ho
            have e1 : a.eval (.tmp 24) = .int .i64 z := hbn.yields 7 (hdep ⟨7, .data⟩ (by simp) rfl) 24 rfl
            have bX : Below X.heap.size X (X.alloc (.cells #[.int .i64 z] 3)) := (Below.refl _ _).alloc (Nat.le_refl _) _
            exact opNew1 e1 ⟨_, rfl, hJ.later bX, ⟨X.heap.size, rfl, hJ.ge, heap_alloc_new X _⟩, fun q hq _ t ht => ⟨rn_mono q _ _ _ (hbn.yields q hq t ht) bX, trivial, trivial⟩⟩
          | 9, _, ho =>
            obtain rfl := Option.some.inj ho
            have e1 : a.eval (.tmp 18) = .slice xa j xc := hbn.yields 1 (hdep ⟨1, .data⟩ (by simp) rfl) 18 rfl
            obtain ⟨q8, e2, hq8, hg8⟩ := hbn.yields 8 (hdep ⟨8, .data⟩ (by simp) rfl) 25 rfl
            have hown := hJ.x hnot
            refine wp_appendL _ _ rfl (gt + 1) _ _ e1 hown ⟨q8, 0, none⟩ z e2 (by simp [World.cell?, hg8]) (by rw [HLX.out]; omega) (by have := hJ.t.lt; omega) ?_
            intro v' X' hO hsz hoth hat hbel
            have hge := hJ.ge
            refine ⟨_, rfl, ⟨hbel gt W hJ.bel (by omega), hJ.t.same (hoth gt hJ.t.lt (fun e => by have := (ownI_lt hown gt e).1; omega)), ownI_same hJ.y (fun q hq => hoth q (ownI_lt hJ.y q hq).2 (fun e => HI.out.dif q e hq)), Nat.le_trans hge hsz, fun h => absurd (.inr rfl) h⟩, ⟨hO, ?_⟩, fun q hq hne t ht => ⟨rn_app q hne _ _ _ (hbn.yields q hq t ht) (fun q hq => (ownI_lt HI.out.x q hq).2) hoth, trivial, trivial⟩⟩
            rcases hat with e | e
            · exact .inl e
            · exact .inr ⟨_, e, hge⟩
          | 10, _, ho =>
            obtain rfl := Option.some.inj ho
            exact opFieldT 0 (by omega) (alike_at hA (t := 3) (by kernel_rfl)) ⟨_, rfl, hJ.later (Below.refl _ _), rfl, fun q hq _ t ht => ⟨hbn.yields q hq t ht, trivial, trivial⟩⟩
        · intro o ho a X dn hJ hA hbn hdn
          obtain rfl := Option.some.inj ho
          obtain ⟨hO, hat⟩ := hbn.yields 9 (hdn 9 (by omega)) 26 rfl
          have e1 : a.eval (.tmp 27) = .pointer (some ⟨gt, 0, none⟩) := hbn.yields 10 (hdn 10 (by omega)) 27 rfl
          obtain ⟨xa2, xc2, e2, -⟩ := rdI_own hO
          rw [e2] at hO hat
          refine opStoreRow e1 e2 (hJ.t.cell 0) (hJ.t.frozen 0) ?_
          have hlx : (XS ++ [z]).length = j + 1 := by rw [List.length_append, HLX.out]; rfl
          rw [hlx] at hO hat ⊢
          have HI2 : Hid _ := ti_x HI.out hJ.bel hJ.t hJ.y hO hat
          have hge : wr.heap.size ≤ (X.setCell ⟨gt, 0, none⟩ (.slice xa2 (j + 1) xc2)).heap.size := by simp [World.setCell]; exact hJ.ge
          obtain ⟨us, hus, rfl⟩ := alike_tmps hA [17, 18, 19, 20, 21, 22, 23, 24, 25, 26, 27] (by kernel_rfl)
          clear hbn hdn hA hus e1 e2 hO hat hJ ho
          generalize X.setCell ⟨gt, 0, none⟩ (.slice xa2 (j + 1) xc2) = Y at *
          simp only [List.mapIdx_cons, List.mapIdx_nil, Nat.reduceAdd, List.contains_cons, List.contains_nil, Nat.reduceBEq, Bool.or_false, Bool.or_true, if_true, if_false, Bool.false_eq_true]
          have y1 : Y.cell? ⟨gt, 1, none⟩ = some (.slice ya j yc) := HI2.out.t.cell 1
          have hgY := HI2.out.t.lt
          have hgn : ¬ gt = Y.heap.size := by omega
          have HY : Hid (∀ X, Below Y.heap.size Y X → TI W X gt (.slice xa2 (j + 1) xc2) (.slice ya j yc) (XS ++ [z]) YS) := fun X hX => ⟨HI2.out.bel.trans (hX.mono (by omega)), ownI_later HI2.out.x hX, ownI_later HI2.out.y hX, HI2.out.dif, HI2.out.t.same (hX.block gt hgY)⟩
          obtain ⟨V, hV⟩ : ∃ V, V = Y.alloc (.cells #[.int .i64 0] 3) := ⟨_, rfl⟩
          have HIV : Hid _ := HY.out V (by rw [hV]; exact (Below.refl _ _).alloc (Nat.le_refl _) _)
          have hVc : V.cell? ⟨Y.heap.size, 0, none⟩ = some (.int .i64 0) := by rw [hV, World.cell?_alloc_mark]; rfl
          have HVs : Hid (gt + 1 ≤ V.heap.size) := by have := HIV.out.t.lt; exact this
          go_wp2_with (at_builtin; rw [← hV]; clear hV; refine wpList_appendL rfl _ _ rfl (gt + 1) _ _ rfl HIV.out.y ⟨Y.heap.size, 0, none⟩ 0 rfl hVc ?hlen HVs.out ?_)
          case hlen => rw [HLY.out]; omega
          intro v4 X4 O4 s4 H4 A4 B4
          obtain ⟨ya4, yc4, rfl, -⟩ := rdI_own O4
          have hly : (YS ++ [0]).length = j + 1 := by rw [List.length_append, HLY.out]; rfl
          rw [hly] at O4 A4 ⊢
          have T4 : Two X4 gt (.slice xa2 (j + 1) xc2) (.slice ya j yc) := HIV.out.t.same (H4.out gt HIV.out.t.lt (fun e => by have := (ownI_lt HIV.out.y gt e).1; omega))
          have x4 : ownI X4 (gt + 1) (.slice xa2 (j + 1) xc2) _ := ownI_same HIV.out.x (fun q hq => H4.out q (ownI_lt HIV.out.x q hq).2 (fun e => HIV.out.dif q hq e))
          have HF : Hid _ := ti_y HIV.out (B4.out gt W HIV.out.bel (by omega)) T4 x4 O4 (by
            rcases A4.out with e | e
            · exact .inl e
            · exact .inr ⟨_, e, Nat.le_refl _⟩)
          have c4 : X4.cell? ⟨gt, 1, none⟩ = some (.slice ya j yc) := T4.cell 1
          have f4 := T4.frozen 1
          rw [← HXS.out, ← HYS.out] at HF
          clear T4 x4 O4 H4 A4 B4
          go_wp2
          go_roundw
          case rel => exact ⟨j + 1, xa2, xc2, ya4, yc4, by go_num, by omega, by omega, HF⟩
          case measure => simp [intOf]; omega
      · have e8 : 8 ≤ j := by omega
        have HEE : Hid (_ = _) := HE.out j hj8 hjn (.inl (by omega))
        have TW := HI.out.t
        have RW := HFR.out _ HI.out.bel
        have x0 : wr.cell? ⟨gt, 0, none⟩ = some (.slice xa j xc) := TW.cell 0
        have x1 : wr.cell? ⟨gt, 1, none⟩ = some (.slice ya j yc) := TW.cell 1
        have r0 : wr.cell? ⟨w.heap.size + 1, 0, none⟩ = some (.slice none 0 0) := RW.cell 0
        have r1 : wr.cell? ⟨w.heap.size + 1, 1, none⟩ = some (.slice none 0 0) := RW.cell 1
        have z0 := RW.frozen 0
        have z1 := RW.frozen 1
        have HTM : Hid (TM (setTwo wr (w.heap.size + 1) (.slice xa j xc) (.slice ya j yc)) w.heap.size ⟨xa, j, xc, ya, j, yc⟩ (trialNew H)) := by
          have oth : ∀ q, gt + 1 ≤ q → (setTwo wr (w.heap.size + 1) (.slice xa j xc) (.slice ya j yc)).heap[q]? = wr.heap[q]? := fun q hq => setTwo_other _ _ _ _ q (by have := HWs.out; have := Hgt.out; omega)
          rw [HEE.out]
          have hle : w.heap.size ≤ gt + 1 := by have := HWs.out; have := Hgt.out; omega
          exact ⟨ownI_mono (ownI_same HI.out.x (fun q hq => oth q (ownI_lt HI.out.x q hq).1)) hle, ownI_mono (ownI_same HI.out.y (fun q hq => oth q (ownI_lt HI.out.y q hq).1)) hle, HI.out.dif⟩
        have HBL : Hid (Below w.heap.size w (setTwo wr (w.heap.size + 1) (.slice xa j xc) (.slice ya j yc))) := by
          unfold setTwo
          exact ((HBW.out.trans (HI.out.bel.mono (by have := HWs.out; have := Hgt.out; omega))).setCell (by simp) _).setCell (by simp) _
        clear TW RW HI HEE
        go_wp2
        exact bodyPost_ret (v := .agg #[.slice xa j xc, .slice ya j yc]) (by simp [results, Try.results60, go_sem, *]) rfl ⟨⟨xa, j, xc, ya, j, yc⟩, rfl, HTM.out, HBL.out⟩
    · have e8 : n ≤ j := by omega
      have HEE : Hid (_ = _) := HE.out j hj8 hjn (.inr (by omega))
      have TW := HI.out.t
      have RW := HFR.out _ HI.out.bel
      have x0 : wr.cell? ⟨gt, 0, none⟩ = some (.slice xa j xc) := TW.cell 0
      have x1 : wr.cell? ⟨gt, 1, none⟩ = some (.slice ya j yc) := TW.cell 1
      have r0 : wr.cell? ⟨w.heap.size + 1, 0, none⟩ = some (.slice none 0 0) := RW.cell 0
      have r1 : wr.cell? ⟨w.heap.size + 1, 1, none⟩ = some (.slice none 0 0) := RW.cell 1
      have z0 := RW.frozen 0
      have z1 := RW.frozen 1
      have HTM : Hid (TM (setTwo wr (w.heap.size + 1) (.slice xa j xc) (.slice ya j yc)) w.heap.size ⟨xa, j, xc, ya, j, yc⟩ (trialNew H)) := by
        have oth : ∀ q, gt + 1 ≤ q → (setTwo wr (w.heap.size + 1) (.slice xa j xc) (.slice ya j yc)).heap[q]? = wr.heap[q]? := fun q hq => setTwo_other _ _ _ _ q (by have := HWs.out; have := Hgt.out; omega)
        rw [HEE.out]
        have hle : w.heap.size ≤ gt + 1 := by have := HWs.out; have := Hgt.out; omega
        exact ⟨ownI_mono (ownI_same HI.out.x (fun q hq => oth q (ownI_lt HI.out.x q hq).1)) hle, ownI_mono (ownI_same HI.out.y (fun q hq => oth q (ownI_lt HI.out.y q hq).1)) hle, HI.out.dif⟩
      have HBL : Hid (Below w.heap.size w (setTwo wr (w.heap.size + 1) (.slice xa j xc) (.slice ya j yc))) := by
        unfold setTwo
        exact ((HBW.out.trans (HI.out.bel.mono (by have := HWs.out; have := Hgt.out; omega))).setCell (by simp) _).setCell (by simp) _
      clear TW RW HI HEE
      go_wp2
      exact bodyPost_ret (v := .agg #[.slice xa j xc, .slice ya j yc]) (by simp [results, Try.results60, go_sem, *]) rfl ⟨⟨xa, j, xc, ya, j, yc⟩, rfl, HTM.out, HBL.out⟩
end Go.Proofs.Ytnjplfofcjonhaa

namespace Go.Proofs.Ytnjplfofcjonhaa
open Go.RowKit
set_option linter.unusedVariables false
set_option maxRecDepth 100000
def grayF (H : HeapD) (T : TrialD) (id : Int) : TrialD := if 0 ≤ slotZ H id then paintT (-1) 1 H T (slotZ H id).toNat else T
def scanF (H : HeapD) (T : TrialD) (id : Int) : TrialD := if 0 ≤ slotZ H id then scanT H T (slotZ H id) else T
def suspG (H : HeapD) (j : Nat) : TrialD := (H.buffer.take j).foldl (grayF H) (trialNew H)
def suspS (H : HeapD) (j : Nat) : TrialD := (H.buffer.take j).foldl (scanF H) (suspG H H.buffer.length)
def suspT (H : HeapD) : TrialD := suspS H H.buffer.length
theorem trialNew_eight (H : HeapD) (h8 : H.objs.length = 8) : Eight (trialNew H) := by
  unfold trialNew
  constructor <;> simp [h8]
theorem okT_of_slot (H : HeapD) (T : TrialD) (id : Int) (hT : Eight T) (h8 : H.objs.length = 8) : OkT H T (slotZ H id) ↔ 0 ≤ slotZ H id := by
  constructor
  · intro h; exact h.lo
  · intro h
    have hr := slotZ_range H id
    refine ⟨h8, hT.1, hT.2, h, hr.2, ?_⟩
    unfold slotZ at h ⊢
    split at h
    · omega
    · rename_i h1
      rw [if_neg h1]
      cases ho : H.objs[(id % 8).toNat]? with
      | none => rw [ho] at h; simp at h
      | some o =>
        rw [ho] at h
        simp only at h ⊢
        split at h
        · rename_i h2
          rw [if_pos h2]
          exact ⟨o, ho, h2.1⟩
        · omega
theorem grayF_eight (H : HeapD) (T : TrialD) (id : Int) (hT : Eight T) : Eight (grayF H T id) := by
  unfold grayF
  split
  · rename_i h
    exact paintT_eight _ _ _ _ _ hT (by have := slotZ_range H id; omega)
  · exact hT
theorem scanF_eight (H : HeapD) (hs : SmallH H) (T : TrialD) (id : Int) (hT : Eight T) : Eight (scanF H T id) := by
  unfold scanF
  split
  · rename_i h
    obtain ⟨k, hk⟩ : ∃ k : Nat, slotZ H id = (k : Int) := ⟨(slotZ H id).toNat, by omega⟩
    rw [hk]
    exact scanT_eight H hs T k hT (by have := slotZ_range H id; omega)
  · exact hT
theorem suspG_eight (H : HeapD) (h8 : H.objs.length = 8) : ∀ j, Eight (suspG H j) := by
  have key : ∀ (l : List Int) (T : TrialD), Eight T → Eight (l.foldl (grayF H) T) := by
    intro l
    induction l with
    | nil => intro T h; exact h
    | cons z r ih => intro T h; exact ih _ (grayF_eight H T z h)
  exact fun j => key _ _ (trialNew_eight H h8)
theorem suspS_eight (H : HeapD) (hs : SmallH H) (h8 : H.objs.length = 8) : ∀ j, Eight (suspS H j) := by
  have key : ∀ (l : List Int) (T : TrialD), Eight T → Eight (l.foldl (scanF H) T) := by
    intro l
    induction l with
    | nil => intro T h; exact h
    | cons z r ih => intro T h; exact ih _ (scanF_eight H hs T z h)
  exact fun j => key _ _ (suspG_eight H h8 _)
theorem suspG_step (H : HeapD) (j : Nat) (h : j < H.buffer.length) : suspG H (j + 1) = grayF H (suspG H j) H.buffer[j] := by
  unfold suspG
  rw [List.take_succ_eq_append_getElem h, List.foldl_append]; rfl
theorem suspS_step (H : HeapD) (j : Nat) (h : j < H.buffer.length) : suspS H (j + 1) = scanF H (suspS H j) H.buffer[j] := by
  unfold suspS
  rw [List.take_succ_eq_append_getElem h, List.foldl_append]; rfl
theorem suspG_zero (H : HeapD) : suspG H 0 = trialNew H := by simp [suspG]
theorem suspS_zero (H : HeapD) : suspS H 0 = suspG H H.buffer.length := by simp [suspS]
end Go.Proofs.Ytnjplfofcjonhaa

namespace Go.Proofs.Ytnjplfofcjonhaa
open Go.RowKit
set_option linter.unusedVariables false
def inO (id : Int) (o : ObjD) : Nat := if o.live = true then o.field.count id else 0
def inE (id : Int) (os : List ObjD) : Nat := (os.map (inO id)).sum
theorem inE_succ (id : Int) (os : List ObjD) (j : Nat) (h : j < os.length) : inE id (os.take (j + 1)) = inE id (os.take j) + inO id os[j] := by
  unfold inE
  rw [List.take_succ_eq_append_getElem h, List.map_append, List.sum_append]
  simp
theorem inE_le (id : Int) (os : List ObjD) (m : Nat) (h : ∀ z ∈ os, z.field.length ≤ m) : inE id os ≤ os.length * m := by
  unfold inE
  induction os with
  | nil => simp
  | cons o r ih =>
    have h1 := h o (by simp)
    have h2 := ih (fun z hz => h z (by simp [hz]))
    have h3 : inO id o ≤ m := by
      unfold inO; split
      · exact Nat.le_trans List.count_le_length h1
      · omega
    simp only [List.map_cons, List.sum_cons, List.length_cons, Nat.add_mul, Nat.one_mul]
    omega
theorem count_succ (id : Int) (zs : List Int) (k : Nat) (h : k < zs.length) : (zs.take (k + 1)).count id = (zs.take k).count id + if zs[k] = id then 1 else 0 := by
  rw [List.take_succ_eq_append_getElem h, List.count_append]
  generalize zs[k] = z
  by_cases e : z = id
  · subst e; simp
  · have e2 : ([z] : List Int).count id = 0 := List.count_eq_zero.2 (by simp; exact fun h => e h.symm)
    rw [e2, if_neg e]
def inEdges (H : HeapD) (slot : Int) : Int :=
  if 0 ≤ slot then match H.objs[slot.toNat]? with
    | none => 0
    | some o => if o.live = true then (inE (idZ slot o.gen) H.objs : Int) else 0
  else 0
theorem sInEdges_no (v : Value) (H : HeapD) (slot : Int) (w : World) (h : RdH w v H) (hs : SmallH H) (h0 : -9223372036854775808 ≤ slot) (h9 : slot ≤ 9223372036854775807) (hb : slot < 0 ∨ (H.objs.length : Int) - 1 < slot) :
    Calls Try.prog 42 #[v, .int .i64 slot] w fun e w' => e = .returned (.int .i64 (inEdges H slot)) ∧ Below w.heap.size w w' := by
  obtain ⟨ao, co, aw, cw, ab, cb, sa, sc, rfl, ro, -, -, -⟩ := h
  have HE : Hid (inEdges H slot = 0) := by
    show _ = _
    unfold inEdges
    by_cases h1 : 0 ≤ slot
    · rw [if_pos h1, List.getElem?_eq_none (by omega)]
    · rw [if_neg h1]
  have hn := hs.objs
  have C1 : Hid (∀ X, _) := fun X => l1In_no slot 0 ((H.objs.length : Int) - 1) X hb
  clear ro hb
  go_enter Try.func42, Try.ntmps42
  go_wp2_with fail
  refine (C1.out _).mono ?_
  rintro e w1 ⟨rfl, hw1⟩
  have B1 : Below w.heap.size w w1 := by rw [hw1]; exact (Below.refl _ _).alloc (Nat.le_refl _) _
  clear hw1
  go_wp2
  go_ret
  exact ⟨ret_zz HE.out.symm, B1⟩
theorem sInEdges_live (v : Value) (H : HeapD) (s : Nat) (w : World) (h : RdH w v H) (hs : SmallH H) (hl : s < H.objs.length) :
    Calls Try.prog 42 #[v, .int .i64 (s : Int)] w fun e w' => e = .returned (.int .i64 (inEdges H (s : Int))) ∧ Below w.heap.size w w' := by
  obtain ⟨ao, co, aw, cw, ab, cb, sa, sc, rfl, ro, -, -, -⟩ := h
  have hn := hs.objs
  obtain ⟨W, hW⟩ : ∃ W, W = w.alloc (.cells #[.slice ao H.objs.length co, .slice aw H.weaks.length cw, .slice ab H.buffer.length cb, .slice sa H.sites.length sc] 29) := ⟨_, rfl⟩
  have BW : Below w.heap.size w W := by rw [hW]; exact (Below.refl _ _).alloc (Nat.le_refl _) _
  have HR : Hid (RdO W ao H.objs) := rdO_later ro BW
  have hp : W.cell? ⟨w.heap.size, 0, none⟩ = some (.slice ao H.objs.length co) := by rw [hW, World.cell?_alloc_mark]; rfl
  have C1 : Hid (∀ X, _) := fun X => l1In_yes (s : Int) 0 ((H.objs.length : Int) - 1) X (by omega) (by omega)
  obtain ⟨g, off, f, fc, rfl, -, hc, -⟩ := HR.out s hl
  obtain ⟨o, ho⟩ : ∃ o, H.objs[s] = o := ⟨_, rfl⟩
  rw [ho] at hc
  have HE : Hid (inEdges H (s : Int) = if o.live = true then (inE (idZ (s : Int) o.gen) H.objs : Int) else 0) := by
    show _ = _
    unfold inEdges
    rw [if_pos (by omega), show ((s : Int)).toNat = s from by omega, List.getElem?_eq_getElem hl, ho]
  obtain ⟨c0, c1, -⟩ := hc
  have c0' : W.cell? ⟨g, off + s * 8, none⟩ = _ := c0
  clear ro ho
  obtain ⟨n, hnn⟩ : ∃ n, H.objs.length = n := ⟨_, rfl⟩
  have Hn : Hid (H.objs.length = n) := hnn
  rw [hnn] at hn hp hW hl C1 ⊢
  clear hnn
  obtain ⟨ol, og, os1, oh, orr, oc, ofl, op⟩ := o
  simp only at c0 c1 HE
  clear c0'
  cases ol with
  | false =>
    have HV : Hid (inEdges H (s : Int) = 0) := by show _ = _; rw [HE.out, if_neg (by simp)]
    go_enter Try.func42, Try.ntmps42
    go_wp2_with fail
    rw [← hW]
    refine (C1.out _).mono ?_
    rintro e W1 ⟨rfl, hw1⟩
    subst hw1
    clear hW
    go_wp2
    go_ret
    exact ⟨ret_zz HV.out.symm, BW⟩
  | true =>
    have HV : Hid (inEdges H (s : Int) = (inE (idZ (s : Int) og) H.objs : Int)) := by show _ = _; rw [HE.out, if_pos rfl]
    have CID : Hid (∀ X, _) := fun X => sIdOf_calls (s : Int) og X
    generalize idZ (s : Int) og = id at *
    have HS : Hid (∀ (j : Nat) (h : j < H.objs.length), inE id (H.objs.take (j + 1)) = inE id (H.objs.take j) + inO id H.objs[j]) := fun j h => inE_succ id H.objs j h
    have HL : Hid (∀ j, inE id (H.objs.take j) ≤ 1048576 * 1048576) := by
      intro j
      have h1 := inE_le id (H.objs.take j) 1048576 (fun z hz => hs.fields z (List.mem_of_mem_take hz))
      have h2 : (H.objs.take j).length ≤ 1048576 := by rw [List.length_take]; have := hs.objs; omega
      exact Nat.le_trans h1 (Nat.mul_le_mul_right _ h2)
    have HF : Hid (∀ z ∈ H.objs, z.field.length ≤ 1048576) := hs.fields
    have HW : Hid (inE id (H.objs.take n) = inE id H.objs) := by show _ = _; rw [← Hn.out, List.take_length]
    have HB : Hid (Below w.heap.size w W) := BW
    go_enter Try.func42, Try.ntmps42
    go_wp2_with fail
    rw [← hW]
    refine (C1.out _).mono ?_
    rintro e W1 ⟨rfl, hw1⟩
    subst hw1
    clear hW BW hs
    go_wp2_with fail
    refine (CID.out _).mono ?_
    rintro e W2 ⟨rfl, hw2⟩
    subst hw2
    clear c0 c1 CID C1
    go_wp2
    go_loopw [5, 7] (fun x i wr => ∃ j : Nat, j ≤ n ∧ i = .int .i64 j ∧ x = .int .i64 (inE id (H.objs.take j) : Int) ∧ Hid (∀ p, wr.cell? p = W2.cell? p) ∧ Below w.heap.size w wr) (fun _ i _ => n - (intOf i).toNat)
    case atStart => exact ⟨0, by omega, rfl, by simp [inE], fun _ => rfl, HB.out⟩
    case round =>
      obtain ⟨j, hj, rfl, rfl, HC, hb⟩ := hrel
      by_cases hlt : j < n
      · have hj2 : j < H.objs.length := by have := Hn.out; omega
        obtain ⟨g', off', fj, fcj, hge, -, hcj, hrj⟩ := HR.out j hj2
        obtain ⟨rfl, rfl⟩ : g = g' ∧ off = off' := by simpa using hge
        obtain ⟨o, ho⟩ : ∃ o, H.objs[j] = o := ⟨_, rfl⟩
        have HS2 : Hid (_ = _) := HS.out j hj2
        have hfl := HF.out _ (List.getElem_mem hj2)
        have hbd := HL.out j
        rw [ho] at hcj hrj HS2 hfl
        clear ho hge
        obtain ⟨c0, -, -, -, -, -, c6, -⟩ := hcj
        have HRJ : Hid _ := hrj
        clear hrj
        obtain ⟨ol, og, os1, oh, orr, oc, ofl, op⟩ := o
        simp only at c0 c6 HS2 hfl HRJ
        rw [← HC.out] at c0 c6 hp
        generalize inE id (H.objs.take j) = N at *
        cases ol with
        | false =>
          have HT : Hid (inE id (H.objs.take (j + 1)) = N) := by show _ = _; rw [HS2.out]; simp [inO]
          go_wp2
          go_loop [5, 8] (fun x k => k = .int .i64 0 ∧ x = .int .i64 (N : Int)) (fun _ _ => 0)
          case atStart => exact ⟨rfl, rfl⟩
          case round =>
            obtain ⟨rfl, rfl⟩ := hrel
            by_cases hf0 : 0 < ofl.length
            · go_wp2
              go_roundw
              case rel => exact ⟨j + 1, by omega, by go_num, by rw [HT.out], HC, hb⟩
              case measure => simp [intOf]; omega
            · go_wp2
              go_roundw
              case rel => exact ⟨j + 1, by omega, by go_num, by rw [HT.out], HC, hb⟩
              case measure => simp [intOf]; omega
        | true =>
          have HT : Hid (inE id (H.objs.take (j + 1)) = N + ofl.count id) := by show _ = _; rw [HS2.out]; simp [inO]
          have HCS : Hid (∀ (k : Nat) (h : k < ofl.length), _) := fun k h => count_succ id ofl k h
          have HCL : Hid (∀ k, (ofl.take k).count id ≤ 1048576) := fun k => Nat.le_trans List.count_le_length (by rw [List.length_take]; omega)
          have HCA : Hid ((ofl.take ofl.length).count id = ofl.count id) := by show _ = _; rw [List.take_length]
          obtain ⟨m, hm⟩ : ∃ m, ofl.length = m := ⟨_, rfl⟩
          have Hm : Hid (ofl.length = m) := hm
          rw [hm] at c6 hfl HCA
          clear hm
          go_wp2
          go_loop [5, 8] (fun x k => ∃ kk : Nat, kk ≤ m ∧ k = .int .i64 kk ∧ x = .int .i64 ((N + (ofl.take kk).count id : Nat) : Int)) (fun _ k => m - (intOf k).toNat)
          case atStart => exact ⟨0, by omega, rfl, by simp⟩
          case round =>
            obtain ⟨kk, hkk, rfl, rfl⟩ := hrel
            by_cases hkl : kk < m
            · have hk2 : kk < ofl.length := by have := Hm.out; omega
              obtain ⟨gf, of2, rfl, -, hcf⟩ := HRJ.out kk hk2
              rw [← HC.out] at hcf
              have HC2 : Hid (_ = _) := HCS.out kk hk2
              have hcl := HCL.out kk
              generalize (ofl.take kk).count id = M at *
              generalize ofl[kk] = z at *
              by_cases hz : z = id
              · have HN : Hid ((ofl.take (kk + 1)).count id = M + 1) := by show _ = _; rw [HC2.out, if_pos hz]
                subst hz
                go_wp2
                go_round
                case rel => exact ⟨kk + 1, by omega, by go_num, by rw [HN.out]; go_num⟩
                case measure => simp [intOf]; omega
              · have HN : Hid ((ofl.take (kk + 1)).count id = M) := by show _ = _; rw [HC2.out, if_neg hz]; rfl
                have hq : (z == id) = false := by rw [beq_eq_false_iff_ne]; exact hz
                go_wp2
                go_round
                case rel => exact ⟨kk + 1, by omega, by go_num, by rw [HN.out]⟩
                case measure => simp [intOf]; omega
            · obtain rfl : kk = m := by omega
              go_wp2
              go_roundw
              case rel => exact ⟨j + 1, by omega, by go_num, by rw [HT.out, ← HCA.out], HC, hb⟩
              case measure => simp [intOf]; omega
      · obtain rfl : j = n := by omega
        rw [← HC.out] at hp
        go_wp2
        go_ret
        exact ⟨ret_zz (by rw [HV.out, ← HW.out]), hb⟩
theorem sInEdges_calls (v : Value) (H : HeapD) (slot : Int) (w : World) (h : RdH w v H) (hs : SmallH H) (h0 : -9223372036854775808 ≤ slot) (h9 : slot ≤ 9223372036854775807) :
    Calls Try.prog 42 #[v, .int .i64 slot] w fun e w' => e = .returned (.int .i64 (inEdges H slot)) ∧ Below w.heap.size w w' := by
  by_cases hb : slot < 0 ∨ (H.objs.length : Int) - 1 < slot
  · exact sInEdges_no v H slot w h hs h0 h9 hb
  · obtain ⟨s, rfl⟩ := Int.eq_ofNat_of_zero_le (a := slot) (by omega)
    exact sInEdges_live v H s w h hs (by omega)
end Go.Proofs.Ytnjplfofcjonhaa

namespace Go.Proofs.Ytnjplfofcjonhaa
open Go.RowKit
set_option linter.unusedVariables false
theorem timesIn_calls (w : World) (a : Option Addr) (cap : Nat) (zs : List Int) (x : Int) (h : RdI w a zs) (hn : zs.length ≤ 1048576) :
    Calls Try.prog 55 #[.slice a zs.length cap, .int .i64 x] w fun e w' => e = .returned (.int .i64 ((zs.count x : Nat) : Int)) ∧ w' = w := by
  have HA : Hid (RdI w a zs) := h
  have HD : Hid (∀ (j : Nat) (h : j < zs.length), (zs.take (j + 1)).count x = _) := fun j hj => count_succ x zs j hj
  have HL : Hid (∀ k, (zs.take k).count x ≤ 1048576) := fun k => Nat.le_trans List.count_le_length (by rw [List.length_take]; omega)
  have HE : Hid ((zs.take zs.length).count x = zs.count x) := by show _ = _; rw [List.take_length]
  obtain ⟨n, hnn⟩ : ∃ n, zs.length = n := ⟨_, rfl⟩
  have Hn : Hid (zs.length = n) := hnn
  rw [hnn] at hn HE ⊢
  rw [← HE.out]
  clear h hnn
  go_enter Try.func55, Try.ntmps55
  go_wp2
  go_loop [5, 10] (fun c i => ∃ j : Nat, j ≤ n ∧ i = .int .i64 j ∧ c = .int .i64 (((zs.take j).count x : Nat) : Int)) (fun _ i => n - (intOf i).toNat)
  case atStart => exact ⟨0, by omega, rfl, by simp⟩
  case round =>
    obtain ⟨j, hj, rfl, rfl⟩ := hrel
    by_cases hlt : j < n
    · have hj2 : j < zs.length := by have := Hn.out; omega
      obtain ⟨g, off, rfl, -, hc⟩ := HA.out j hj2
      have HD2 : Hid (_ = _) := HD.out j hj2
      have hl := HL.out j
      generalize (zs.take j).count x = M at *
      generalize zs[j] = z at *
      by_cases he : z = x
      · have HR : Hid ((zs.take (j + 1)).count x = M + 1) := by show _ = _; rw [HD2.out, if_pos he]
        subst he
        go_wp2
        go_round
        case rel => exact ⟨j + 1, by omega, by go_num, by rw [HR.out]; go_num⟩
        case measure => simp [intOf]; omega
      · have HR : Hid ((zs.take (j + 1)).count x = M) := by show _ = _; rw [HD2.out, if_neg he]; rfl
        have hq : (z == x) = false := by rw [beq_eq_false_iff_ne]; exact he
        go_wp2
        go_round
        case rel => exact ⟨j + 1, by omega, by go_num, by rw [HR.out]⟩
        case measure => simp [intOf]; omega
    · obtain rfl : j = n := by omega
      go_wp2
      go_ret
      exact ⟨rfl, rfl⟩
end Go.Proofs.Ytnjplfofcjonhaa

namespace Go.Proofs.Ytnjplfofcjonhaa
open Go.RowKit
set_option linter.unusedVariables false
theorem iInEdges_calls (v : Value) (H : HeapD) (s : Nat) (w : World) (h : RdH w v H) (hs : SmallH H) (h8 : s < 8) :
    Calls Try.prog 17 #[v, .int .i64 (s : Int)] w fun e w' => e = .returned (.int .i64 (inEdges H (s : Int))) ∧ Below w.heap.size w w' := by
  have HR0 : Hid (∀ X, Below w.heap.size w X → RdH X v H) := fun X hX => rdH_later h hX
  obtain ⟨ao, co, aw, cw, ab, cb, sa, sc, hv, ro, -, -, -⟩ := h
  have hn := hs.objs
  obtain ⟨W, hW⟩ : ∃ W, W = w.alloc (.cells #[.slice ao H.objs.length co, .slice aw H.weaks.length cw, .slice ab H.buffer.length cb, .slice sa H.sites.length sc] 29) := ⟨_, rfl⟩
  have BW : Below w.heap.size w W := by rw [hW]; exact (Below.refl _ _).alloc (Nat.le_refl _) _
  have hWs : W.heap.size = w.heap.size + 1 := by rw [hW]; simp
  by_cases hl : NoLive H (s : Int)
  · have HE : Hid (inEdges H (s : Int) = 0) := by
      show _ = _
      unfold inEdges
      rw [if_pos (by omega)]
      rcases hl with h1 | h1 | h1
      · omega
      · omega
      · cases ho : H.objs[((s : Int)).toNat]? with
        | none => rfl
        | some o => simp only; rw [if_neg (by rw [h1 o ho]; simp)]
    have CL : Hid (∀ X, Below w.heap.size w X → _) := fun X hX => liveIn_no v H (s : Int) X (HR0.out X hX) hn hl
    subst hv
    clear ro hl HR0
    go_enter Try.func17, Try.ntmps17
    go_wp2_with fail
    rw [← hW]
    clear hW hWs
    refine (CL.out _ BW).mono ?_
    rintro e w1 ⟨rfl, b1⟩
    have B1 := BW.trans (b1.mono BW.size)
    go_wp2
    go_ret
    exact ⟨ret_zz HE.out.symm, B1⟩
  · have hlen : s < H.objs.length := by
      apply Classical.byContradiction
      intro hc
      exact hl (.inr (.inr (fun o ho => by rw [List.getElem?_eq_none (by omega)] at ho; cases ho)))
    have hlive : H.objs[s].live = true := by
      apply Classical.byContradiction
      intro hc
      refine hl (.inr (.inr (fun o ho => ?_)))
      rw [show ((s : Int)).toNat = s from by omega, List.getElem?_eq_getElem hlen] at ho
      injection ho with ho
      rw [← ho]
      simpa using hc
    obtain ⟨g, off, f, fc, hg, hc, -, CL⟩ := liveIn_yes v H s W (HR0.out W BW) hn h8 hlen hlive
    have HE : Hid (inEdges H (s : Int) = (inE (idZ (s : Int) H.objs[s].gen) H.objs : Int)) := by
      show _ = _
      unfold inEdges
      rw [if_pos (by omega), show ((s : Int)).toNat = s from by omega, List.getElem?_eq_getElem hlen]
      simp only
      rw [if_pos hlive]
    have HC1 : Hid (∀ X, Below W.heap.size W X → X.cell? ⟨g, off + s * 8 + 1, none⟩ = some (.int .i64 H.objs[s].gen)) := fun X hX => (hX.cell (p := ⟨g, off + s * 8 + 1, none⟩) hg).trans hc.c1
    have CID : Hid (∀ X, _) := fun X => iIdOf_calls (s : Int) H.objs[s].gen X
    clear hc hlive
    generalize H.objs[s].gen = og at *
    rw [HE.out]
    generalize idZ (s : Int) og = id at *
    have HS : Hid (∀ (j : Nat) (h : j < H.objs.length), inE id (H.objs.take (j + 1)) = inE id (H.objs.take j) + inO id H.objs[j]) := fun j h => inE_succ id H.objs j h
    have HL : Hid (∀ j, inE id (H.objs.take j) ≤ 1048576 * 1048576) := by
      intro j
      have h1 := inE_le id (H.objs.take j) 1048576 (fun z hz => hs.fields z (List.mem_of_mem_take hz))
      have h2 : (H.objs.take j).length ≤ 1048576 := by rw [List.length_take]; have := hs.objs; omega
      exact Nat.le_trans h1 (Nat.mul_le_mul_right _ h2)
    have HF : Hid (∀ z ∈ H.objs, z.field.length ≤ 1048576) := hs.fields
    have HW : Hid (inE id (H.objs.take H.objs.length) = inE id H.objs) := by show _ = _; rw [List.take_length]
    have HRO : Hid (∀ X, Below W.heap.size W X → RdO X ao H.objs) := fun X hX => rdO_later (rdO_later ro BW) hX
    have HP0 : Hid (∀ X, Below W.heap.size W X → X.cell? ⟨w.heap.size, 0, none⟩ = some (.slice ao H.objs.length co)) := fun X hX => by
      obtain ⟨k0, -⟩ := four_kept w 29 (.slice ao H.objs.length co) (.slice aw H.weaks.length cw) (.slice ab H.buffer.length cb) (.slice sa H.sites.length sc) X (by rw [hWs, hW] at hX; exact hX)
      exact k0
    obtain ⟨n, hnn⟩ : ∃ n, H.objs.length = n := ⟨_, rfl⟩
    have Hn : Hid (H.objs.length = n) := hnn
    have HB : Hid (Below w.heap.size w W) := BW
    rw [hnn] at hn HP0 HW hW hv
    subst hv
    clear ro hl hs hnn hWs BW HR0 HE
    go_enter Try.func17, Try.ntmps17
    go_wp2_with fail
    rw [← hW]
    clear hW
    refine (CL.out _ (Below.refl _ _)).mono ?_
    rintro e w1 ⟨rfl, b1⟩
    have c1 := HC1.out _ b1
    have hp := HP0.out _ b1
    go_wp2_with fail
    refine (CID.out _).mono ?_
    rintro e w2 ⟨rfl, hw2⟩
    subst hw2
    go_wp2
    clear c1 hp
    go_loopw [7, 24] (fun x i wr => ∃ j : Nat, j ≤ n ∧ i = .int .i64 j ∧ x = .int .i64 (inE id (H.objs.take j) : Int) ∧ Below W.heap.size W wr) (fun _ i _ => n - (intOf i).toNat)
    case atStart => exact ⟨0, by omega, rfl, by simp [inE], b1⟩
    case round =>
      obtain ⟨j, hj, rfl, rfl, hb⟩ := hrel
      by_cases hlt : j < n
      · have hj2 : j < H.objs.length := by have := Hn.out; omega
        obtain ⟨gj, offj, fj, fcj, rfl, hgj, hcj, hrj⟩ := HRO.out _ hb j hj2
        obtain ⟨o, ho⟩ : ∃ o, H.objs[j] = o := ⟨_, rfl⟩
        have HS2 : Hid (_ = _) := HS.out j hj2
        have hfl := HF.out _ (List.getElem_mem hj2)
        have hbd := HL.out j
        rw [ho] at hcj hrj HS2 hfl
        clear ho
        obtain ⟨ol, og2, os1, oh, orr, oc, ofl, op⟩ := o
        obtain ⟨c0, c1, c2, c3, c4, c5, c6, c7⟩ := hcj
        simp only at c0 c1 c2 c3 c4 c5 c6 c7 HS2 hfl hrj
        have bV : Below wr.heap.size wr (wr.alloc (.cells #[.bool ol, .int .i64 og2, .int .i64 os1, .int .i64 oh, .int .i64 orr, .int .i64 oc, .slice fj ofl.length fcj, .bool op] 39)) := (Below.refl _ _).alloc (Nat.le_refl _) _
        have HBV : Hid (Below W.heap.size W (wr.alloc (.cells #[.bool ol, .int .i64 og2, .int .i64 os1, .int .i64 oh, .int .i64 orr, .int .i64 oc, .slice fj ofl.length fcj, .bool op] 39))) := hb.trans (bV.mono hb.size)
        generalize inE id (H.objs.take j) = N at *
        cases ol with
        | false =>
          have HT : Hid (inE id (H.objs.take (j + 1)) = N) := by show _ = _; rw [HS2.out]; simp [inO]
          clear hrj bV
          go_wp2
          go_roundw
          case rel => exact ⟨j + 1, by omega, by go_num, by rw [HT.out], HBV.out⟩
          case measure => simp [intOf]; omega
        | true =>
          have HT : Hid (inE id (H.objs.take (j + 1)) = N + ofl.count id) := by show _ = _; rw [HS2.out]; simp [inO]
          have CT : Hid (∀ u : Unit, _) := fun (_ : Unit) => timesIn_calls _ fj fcj ofl id (rdI_later hrj bV) hfl
          have hcl : ofl.count id ≤ 1048576 := Nat.le_trans List.count_le_length hfl
          clear hrj bV
          generalize ofl.count id = M at *
          go_wp2_with fail
          refine (CT.out ()).mono ?_
          rintro e w3 ⟨rfl, hw3⟩
          have B3 : Below W.heap.size W w3 := by rw [hw3]; exact HBV.out
          clear hw3
          go_wp2
          go_roundw
          case rel => exact ⟨j + 1, by omega, by go_num, by rw [HT.out]; go_num, B3⟩
          case measure => simp [intOf]; omega
      · obtain rfl : j = n := by omega
        go_wp2
        go_ret
        exact ⟨ret_zz (by rw [HW.out]), HB.out.trans (hb.mono HB.out.size)⟩
end Go.Proofs.Ytnjplfofcjonhaa

namespace Go.Proofs.Ytnjplfofcjonhaa
open Go.RowKit
set_option linter.unusedVariables false
set_option maxRecDepth 100000 in
theorem mul64_13 (w : World) : Calls Try.prog 113 #[.int .u64 1, .int .u64 3] w fun e w' => e = .returned (.tuple #[.int .u64 0, .int .u64 3]) ∧ w' = w := by
  have h1 : bits BinOp.and IntKind.u64 1 4294967295 = 1 := by kernel_rfl
  have h2 : bits BinOp.and IntKind.u64 3 4294967295 = 3 := by kernel_rfl
  have h3 : bits BinOp.and IntKind.u64 0 4294967295 = 0 := by kernel_rfl
  have h4 : IntKind.u64.wrap 3 = 3 := by kernel_rfl
  have h5 : IntKind.u64.wrap 0 = 0 := by kernel_rfl
  go_enter Try.func113, Try.ntmps113
  go_wp2
  go_ret2
  exact ⟨rfl, rfl⟩
set_option maxRecDepth 100000 in
theorem mul_13 (w : World) : Calls Try.prog 106 #[.int .u64 1, .int .u64 3] w fun e w' => e = .returned (.tuple #[.int .u64 0, .int .u64 3]) ∧ w' = w := by
  go_enter Try.func106, Try.ntmps106
  go_wp2_with fail
  refine (mul64_13 _).mono ?_
  rintro e w1 ⟨rfl, hw1⟩
  subst hw1
  go_wp2
  go_ret2
  exact ⟨rfl, rfl⟩
def RowI (w : World) (G : Nat) (zs : List Int) : Prop := w.heap[G]? = some (.cells (zs.map intV).toArray 3 (0, 0))
theorem rowI_of {w : World} {B G n : Nat} {zs : List Int} (h : ownI w B (.slice (some ⟨G, 0, none⟩) n n) zs) (hn : n = zs.length) : RowI w G zs := by
  subst hn
  rcases h with ⟨h1, ⟨h2, _⟩ | ⟨g, cap, cur, h2, h3, h4, h5, h6, h7, h8⟩⟩
  · cases h2
  · injection h2 with e1 e2 e3
    injection e1 with e1
    injection e1 with e1 _ _
    subst e1 e3
    unfold RowI
    rw [h4, ← h8, List.take_of_length_le (by rw [Array.length_toList, h7]; omega)]
theorem rowI_own {w : World} {B G n : Nat} {zs : List Int} (h : RowI w G zs) (hB : B ≤ G) (hl : zs.length ≤ maxLen) (hn : n = zs.length) : ownI w B (.slice (some ⟨G, 0, none⟩) n n) zs := by
  subst hn
  refine ⟨by simp, .inr ⟨G, zs.length, _, rfl, hB, h, Nat.le_refl _, hl, by simp, by rw [Nat.mul_one]; exact List.take_of_length_le (by simp)⟩⟩
theorem info_int1 : (Try.prog.info? 3).map (·.size) = some 1 := by kernel_rfl
theorem copyI_run {w : World} {G : Nat} {zs : List Int} (h : RowI w G zs) (off dLen dCap : Nat) (ad : Addr) (sLen sCap : Nat) (Y : List Int) (hY : Y.length = Nat.min sLen dLen) (hsrc : ∀ j u, (Y.map intV)[j]? = some u → w.cell? (ad.add j) = some u) (hfit : off + Y.length ≤ zs.length) :
    ∃ w1, (Builtin.copy_ #[26, 26] 3 #[.slice (some ⟨G, off, none⟩) dLen dCap, .slice (some ad) sLen sCap]).run Try.prog w = .ok (.int .i64 (Y.length : Int)) w1 ∧ RowI w1 G (zs.take off ++ Y ++ zs.drop (off + Y.length)) ∧ w1.heap.size = w.heap.size ∧ ∀ C w0, Below C w0 w → C ≤ G → Below C w0 w1 := by
  have hr := run_copy_row (P := Try.prog) w 26 26 3 3 G off dLen dCap ad sLen sCap _ 3 (Y.map intV) Try.underlying26 info_int1 h (by rw [List.length_map]; exact hY) hsrc (by simp; omega) (by intro v hv; obtain ⟨b, _, rfl⟩ := List.mem_map.1 hv; rfl)
  rw [List.length_map] at hr
  refine ⟨_, hr, ?_, by simp [World.setRow], fun C w0 hb hC => below_setRow hb hC _⟩
  unfold RowI
  rw [setRow_heap w G _ _ _ _ h]
  simp
theorem rowI_cell {w : World} {G : Nat} {zs : List Int} (h : RowI w G zs) (j : Nat) (u : Value) (hj : (zs.map intV)[j]? = some u) : w.cell? (Addr.add ⟨G, 0, none⟩ j) = some u := by
  have ea : (Addr.add ⟨G, 0, none⟩ j) = ⟨G, j, none⟩ := by unfold Addr.add; split <;> simp_all
  rw [ea]
  simp only [World.cell?, show w.heap[G]? = _ from h, List.getElem?_toArray]
  exact hj
set_option maxRecDepth 100000 in
theorem repeat3_calls (w : World) (g : Nat) (hg : w.cell? ⟨g, 0, none⟩ = some (.int .i64 (-1))) (hl : g < w.heap.size) :
    Calls Try.prog 86 #[.slice (some ⟨g, 0, none⟩) 1 1, .int .i64 3] w fun e w' => ∃ f, e = .returned f ∧ ownI w' w.heap.size f [-1, -1, -1] ∧ Below w.heap.size w w' := by
  obtain ⟨u, hmk, O1, B1⟩ := make_ints 3 (by omega) w
  have hmk : (Instr.makeSlice 26 (.int .i64 3) (.int .i64 3)).run Try.prog w = .ok (.slice (some ⟨w.heap.size, 0, none⟩) 3 3) u := hmk
  have R1 := rowI_of O1 rfl
  obtain ⟨u2, hcp, R2, s2, b2⟩ := copyI_run R1 0 3 3 ⟨g, 0, none⟩ 1 1 [-1] rfl (by
    intro j x hj
    match j, hj with
    | 0, hj =>
      have e : some (intV (-1)) = some x := hj
      rw [← e, show (Addr.add ⟨g, 0, none⟩ 0) = ⟨g, 0, none⟩ from rfl, B1.cell (p := ⟨g, 0, none⟩) hl]; exact hg
    | j + 1, hj => simp at hj) (by decide)
  have hcp : (Builtin.copy_ #[26, 26] 3 #[.slice (some ⟨w.heap.size, 0, none⟩) 3 3, .slice (some ⟨g, 0, none⟩) 1 1]).run Try.prog u = .ok (.int .i64 1) u2 := hcp
  have H2 : Hid (RowI u2 w.heap.size [-1, 0, 0]) := R2
  have B2 := b2 _ _ B1 (Nat.le_refl _)
  have S1 : Hid (∀ X, RowI X w.heap.size [-1, 0, 0] → _) := fun X hX => copyI_run hX 1 2 2 ⟨w.heap.size, 0, none⟩ 1 3 [-1] rfl (fun j x hj => rowI_cell hX j x (by match j, hj with | 0, hj => exact hj | j + 1, hj => simp at hj)) (by decide)
  have S2 : Hid (∀ X, RowI X w.heap.size [-1, -1, 0] → _) := fun X hX => copyI_run hX 2 1 1 ⟨w.heap.size, 0, none⟩ 2 3 [-1] rfl (fun j x hj => rowI_cell hX j x (by match j, hj with | 0, hj => exact hj | j + 1, hj => simp at hj)) (by decide)
  clear R1 R2 O1 b2 s2 hl hg
  go_enter Try.func86, Try.ntmps86
  go_wp2_with fail
  refine (mul_13 _).mono ?_
  rintro e w1 ⟨rfl, hw1⟩
  subst hw1
  go_wp2
  go_loopw [8] (fun n wr => ∃ k : Nat, n = .int .i64 (k : Int) ∧ ((k = 1 ∧ Hid (RowI wr w1.heap.size [-1, 0, 0])) ∨ (k = 2 ∧ Hid (RowI wr w1.heap.size [-1, -1, 0])) ∨ (k = 3 ∧ Hid (RowI wr w1.heap.size [-1, -1, -1]))) ∧ Below w1.heap.size w1 wr) (fun n _ => 3 - (intOf n).toNat)
  case atStart => exact ⟨1, rfl, .inl ⟨rfl, H2⟩, B2⟩
  case round =>
    obtain ⟨k, rfl, hk | hk | hk, hb⟩ := hrel
    · obtain ⟨rfl, HR⟩ := hk
      obtain ⟨u3, hcp3, R3, s3, b3⟩ := S1.out wr.drew HR.out
      have hcp3 : (Builtin.copy_ #[26, 26] 3 #[.slice (some ⟨w1.heap.size, 1, none⟩) 2 2, .slice (some ⟨w1.heap.size, 0, none⟩) 1 3]).run Try.prog wr.drew = .ok (.int .i64 1) u3 := hcp3
      have H3 : Hid (RowI u3 w1.heap.size [-1, -1, 0]) := R3
      have B3 := b3 _ _ hb.drew (Nat.le_refl _)
      clear R3 b3 s3
      go_wp2
      go_region
      all_goals
        go_wp2
        go_roundw
        case rel => exact ⟨2, by go_num, .inr (.inl ⟨rfl, H3⟩), B3⟩
        case measure => simp [intOf]
    · obtain ⟨rfl, HR⟩ := hk
      obtain ⟨u3, hcp3, R3, s3, b3⟩ := S2.out wr.drew HR.out
      have hcp3 : (Builtin.copy_ #[26, 26] 3 #[.slice (some ⟨w1.heap.size, 2, none⟩) 1 1, .slice (some ⟨w1.heap.size, 0, none⟩) 2 3]).run Try.prog wr.drew = .ok (.int .i64 1) u3 := hcp3
      have H3 : Hid (RowI u3 w1.heap.size [-1, -1, -1]) := R3
      have B3 := b3 _ _ hb.drew (Nat.le_refl _)
      clear R3 b3 s3
      go_wp2
      go_region
      all_goals
        go_wp2
        go_roundw
        case rel => exact ⟨3, by go_num, .inr (.inr ⟨rfl, H3⟩), B3⟩
        case measure => simp [intOf]
    · obtain ⟨rfl, HR⟩ := hk
      go_wp2
      go_ret
      exact ⟨_, rfl, rowI_own HR.out (Nat.le_refl _) (by decide) rfl, hb⟩
theorem blk_kept (w : World) (t : TypeId) (x : Array Value) (X : World) (hb : Below (w.heap.size + 1) (w.alloc (.cells x t)) X) :
    (∀ k, X.cell? ⟨w.heap.size, k, none⟩ = x[k]?) ∧ ∀ k, X.frozen? ⟨w.heap.size, k, none⟩ = false := by
  refine ⟨fun k => ?_, fun k => ?_⟩
  · rw [hb.cell (p := ⟨w.heap.size, k, none⟩) (by show w.heap.size < _; omega), World.cell?_alloc_mark]
  · rw [hb.frozen (p := ⟨w.heap.size, k, none⟩) (by show w.heap.size < _; omega), World.frozen?_alloc_mark]; simp
def emptyD (gen : Int) : ObjD := ⟨false, gen, 0, 0, 0, 0, [-1, -1, -1], false⟩
set_option maxRecDepth 100000 in
theorem emptyObj_calls (gen : Int) (w : World) :
    Calls Try.prog 40 #[.int .i64 gen] w fun e w' => ∃ f, e = .returned (objV (emptyD gen) f) ∧ ownI w' w.heap.size f [-1, -1, -1] ∧ Below w.heap.size w w' := by
  obtain ⟨A, hA⟩ : ∃ A, A = w.alloc (.cells #[.bool false, .int .i64 0, .int .i64 0, .int .i64 0, .int .i64 0, .int .i64 0, .slice none 0 0, .bool false] 39) := ⟨_, rfl⟩
  have BA : Below w.heap.size w A := by rw [hA]; exact (Below.refl _ _).alloc (Nat.le_refl _) _
  have hAs : A.heap.size = w.heap.size + 1 := by rw [hA]; simp
  obtain ⟨C, hC⟩ : ∃ C, C = A.alloc (.cells #[.int .i64 (-1)] 3) := ⟨_, rfl⟩
  have BC : Below A.heap.size A C := by rw [hC]; exact (Below.refl _ _).alloc (Nat.le_refl _) _
  have hCs : C.heap.size = A.heap.size + 1 := by rw [hC]; simp
  have HK : Hid (∀ X, Below C.heap.size C X → _) := fun X hX => blk_kept w 39 #[.bool false, .int .i64 0, .int .i64 0, .int .i64 0, .int .i64 0, .int .i64 0, .slice none 0 0, .bool false] X (by have h := BC.trans (hX.mono (by omega)); rw [hAs, hA] at h; exact h)
  have CR : Hid (∀ u : Unit, _) := fun (_ : Unit) => repeat3_calls C A.heap.size (by rw [hC, World.cell?_alloc_mark]; rfl) (by omega)
  have BB := BA.trans (BC.mono (by omega))
  rw [hAs] at CR
  go_enter Try.func40, Try.ntmps40
  go_wp2_with fail
  rw [← hA, ← hC]
  refine (CR.out ()).mono ?_
  rintro e w1 ⟨f, rfl, O1, b1⟩
  obtain ⟨a, c, rfl, -⟩ := ownI_read O1
  obtain ⟨hc, hf⟩ := HK.out _ b1
  have c0 := hc 0
  have c1 := hc 1
  have c2 := hc 2
  have c3 := hc 3
  have c4 := hc 4
  have c5 := hc 5
  have c6 := hc 6
  have c7 := hc 7
  simp only [List.getElem?_toArray, List.getElem?_cons_zero, List.getElem?_cons_succ] at c0 c1 c2 c3 c4 c5 c6 c7
  have f0 := hf 0
  have f1 := hf 1
  have f2 := hf 2
  have f3 := hf 3
  have f4 := hf 4
  have f5 := hf 5
  have f6 := hf 6
  have f7 := hf 7
  have B1 := BB.trans (b1.mono BB.size)
  have HO : Hid (ownI w1 C.heap.size _ _) := O1
  have HS : Hid (w.heap.size < C.heap.size) := by show _ < _; omega
  clear hc hf CR HK b1 O1 hA hC hAs hCs BA BC BB
  go_wp2
  refine bodyPost_ret (v := .agg #[.bool false, .int .i64 gen, .int .i64 0, .int .i64 0, .int .i64 0, .int .i64 0, .slice a 3 c, .bool false]) (by simp [results, Try.results40, go_sem, *]) rfl ⟨_, rfl, ?_, ?_⟩
  · refine ownI_mono (B := C.heap.size) ?_ (Nat.le_of_lt HS.out)
    iterate 8 refine ownI_far _ _ ?_ HS.out
    exact HO.out
  · iterate 8 refine Below.setCell ?_ (by simp only; omega) _
    exact B1
end Go.Proofs.Ytnjplfofcjonhaa

namespace Go.Proofs.Ytnjplfofcjonhaa
open Go.RowKit
set_option linter.unusedVariables false
def madeZ (H : HeapD) (s : Int) (o : ObjD) : Int := IntKind.i64.wrap (IntKind.i64.wrap (o.holds + o.roots) + inEdges H s)
set_option maxRecDepth 100000 in
set_option maxHeartbeats 4000000 in
theorem countMade_calls (v : Value) (H : HeapD) (s : Nat) (o : ObjD) (w : World) (h : RdH w v H) (hs : SmallH H) (h8 : s < 8) (g p : Nat) (f : Option Addr) (fc : Nat) (hg : g < w.heap.size) (hc : ObjAt w g p o (.slice f o.field.length fc)) :
    Calls Try.prog 101 #[v, .int .i64 (s : Int), .pointer (some ⟨g, p, none⟩)] w fun e w' => e = .returned (.int .i64 (madeZ H (s : Int) o)) ∧ Below w.heap.size w w' := by
  have HR0 : Hid (∀ X, Below w.heap.size w X → RdH X v H) := fun X hX => rdH_later h hX
  obtain ⟨ao, co, aw, cw, ab, cb, sa, sc, rfl, ro, rwk, ri, rs⟩ := h
  obtain ⟨W, hW⟩ : ∃ W, W = w.alloc (.cells #[.slice ao H.objs.length co, .slice aw H.weaks.length cw, .slice ab H.buffer.length cb, .slice sa H.sites.length sc] 29) := ⟨_, rfl⟩
  have BW : Below w.heap.size w W := by rw [hW]; exact (Below.refl _ _).alloc (Nat.le_refl _) _
  have hWs : W.heap.size = w.heap.size + 1 := by rw [hW]; simp
  have HK : Hid (∀ X, Below W.heap.size W X → _) := fun X (hX : Below W.heap.size W X) => four_kept w 29 (.slice ao H.objs.length co) (.slice aw H.weaks.length cw) (.slice ab H.buffer.length cb) (.slice sa H.sites.length sc) X (by rw [hWs, hW] at hX; exact hX)
  have HOB : Hid (∀ X, Below W.heap.size W X → ObjAt X g p o (.slice f o.field.length fc)) := fun X hX => (hc.keep (fun k => BW.cell (p := ⟨g, k, none⟩) hg)).keep (fun k => hX.cell (p := ⟨g, k, none⟩) (Nat.lt_of_lt_of_le hg BW.size))
  have HB : Hid (∀ X, Below W.heap.size W X → Below w.heap.size w X) := fun X hX => BW.trans (hX.mono BW.size)
  have CE2 : Hid (∀ X : LaterW W, _) := fun X => iInEdges_calls _ H s X.on (HR0.out X.on (BW.trans (X.bel.mono BW.size))) hs h8
  have HM : Hid (madeZ H (s : Int) o = IntKind.i64.wrap (IntKind.i64.wrap (o.holds + o.roots) + inEdges H (s : Int))) := rfl
  generalize madeZ H (s : Int) o = M at *
  generalize inEdges H (s : Int) = E at *
  obtain ⟨ol, og, ost, oh, orr, oc, ofl, op⟩ := o
  simp only at *
  have hne := LaterW.some_ W
  have z3 : ∀ X : LaterW W, X.on.cell? ⟨g, p + 3, none⟩ = some (.int .i64 oh) := fun X => (HOB.out _ X.bel).c3
  have z4 : ∀ X : LaterW W, X.on.cell? ⟨g, p + 4, none⟩ = some (.int .i64 orr) := fun X => (HOB.out _ X.bel).c4
  have y0 : ∀ X : LaterW W, X.on.cell? ⟨w.heap.size, 0, none⟩ = some (.slice ao H.objs.length co) := fun X => (HK.out _ X.bel).1
  have y1 : ∀ X : LaterW W, X.on.cell? ⟨w.heap.size, 1, none⟩ = some (.slice aw H.weaks.length cw) := fun X => (HK.out _ X.bel).2.1
  have y2 : ∀ X : LaterW W, X.on.cell? ⟨w.heap.size, 2, none⟩ = some (.slice ab H.buffer.length cb) := fun X => (HK.out _ X.bel).2.2.1
  have y3 : ∀ X : LaterW W, X.on.cell? ⟨w.heap.size, 3, none⟩ = some (.slice sa H.sites.length sc) := fun X => (HK.out _ X.bel).2.2.2
  obtain ⟨S, hS⟩ : ∃ S, IntKind.i64.wrap (oh + orr) = S := ⟨_, rfl⟩
  rw [hS] at HM
  have hM : IntKind.i64.wrap (S + E) = M := HM.out.symm
  clear ro rwk ri rs hs HR0 hc hWs HM
  go_enter Try.func101, Try.ntmps101
  go_wp2
  rw [← hW]
  clear hW
  refine wp_region_later W (Below.refl _ _) (by kernel_rfl) (by kernel_rfl) ?_
  repeat (go_big_quiet_step (first
    | (go_at_call 17; refine (CE2.out _).mono ?_; rintro e w1 ⟨rfl, b1⟩; exact ⟨rfl, LaterW.step _ b1⟩)))
  refine wpQuiet_nil ?_
  rintro _ ⟨⟨X, hX⟩, rfl⟩
  go_wp2
  go_ret
  exact ⟨rfl, HB.out _ hX⟩
end Go.Proofs.Ytnjplfofcjonhaa

namespace Go.Proofs.Ytnjplfofcjonhaa
open Go.RowKit
set_option linter.unusedVariables false
set_option maxRecDepth 100000
def isW (T : TrialD) (i : Nat) : Bool := decide (T.colors.getD i 0 = 2)
def collO (T : TrialD) (i : Nat) (o : ObjD) : ObjD := if isW T i = true then emptyD o.gen else { o with purple := false }
def wipeO (T : TrialD) (i : Nat) (o : ObjD) : ObjD := if isW T i = true then emptyD o.gen else o
def made2 (H1 : HeapD) (i : Nat) (o : ObjD) : ObjD := if o.live = true then { o with count := madeZ H1 (i : Int) o } else o
def coll1 (H : HeapD) : HeapD := { H with objs := H.objs.mapIdx (collO (suspT H)) }
def collH (H : HeapD) : HeapD := { H with objs := (coll1 H).objs.mapIdx (made2 (coll1 H)), buffer := [] }
def genAt (H : HeapD) (i : Int) : Int := match H.objs[i.toNat]? with
  | some o => o.gen
  | none => 0
def collF (H : HeapD) : List Int := (whites (suspT H)).map (fun i => idZ i (genAt H i))
def Alike3 (a b : ObjD) : Prop := a.live = b.live ∧ a.gen = b.gen ∧ a.field = b.field
theorem inE_alike (id : Int) : ∀ (A B : List ObjD), A.length = B.length → (∀ i (h1 : i < A.length) (h2 : i < B.length), Alike3 A[i] B[i]) → inE id A = inE id B := by
  intro A
  induction A with
  | nil => intro B hl _; cases B with | nil => rfl | cons b r => simp at hl
  | cons a r ih =>
    intro B hl h
    cases B with
    | nil => simp at hl
    | cons b r2 =>
      have h0 := h 0 (by simp) (by simp)
      have h1 := ih r2 (by simpa using hl) (fun i p q => by
        have := h (i + 1) (by simp; omega) (by simp; omega)
        simpa using this)
      have e : inO id a = inO id b := by
        obtain ⟨x, y, z⟩ := h0
        simp only [List.getElem_cons_zero] at x y z
        unfold inO
        rw [x, z]
      unfold inE at h1 ⊢
      simp only [List.map_cons, List.sum_cons]
      rw [e, h1]
theorem inEdges_alike {G K : HeapD} (hl : G.objs.length = K.objs.length) (h : ∀ i (h1 : i < G.objs.length) (h2 : i < K.objs.length), Alike3 G.objs[i] K.objs[i]) (slot : Int) : inEdges G slot = inEdges K slot := by
  unfold inEdges
  split
  · by_cases hs : slot.toNat < G.objs.length
    · have hs2 : slot.toNat < K.objs.length := by omega
      rw [List.getElem?_eq_getElem hs, List.getElem?_eq_getElem hs2]
      obtain ⟨x, y, z⟩ := h _ hs hs2
      simp only []
      rw [x, y, inE_alike _ _ _ hl h]
    · rw [List.getElem?_eq_none (by omega), List.getElem?_eq_none (by omega)]
  · rfl
theorem madeZ_alike {G K : HeapD} (hl : G.objs.length = K.objs.length) (h : ∀ i (h1 : i < G.objs.length) (h2 : i < K.objs.length), Alike3 G.objs[i] K.objs[i]) (slot : Int) (a b : ObjD) (hh : a.holds = b.holds) (hr : a.roots = b.roots) : madeZ G slot a = madeZ K slot b := by
  unfold madeZ
  rw [hh, hr, inEdges_alike hl h]
def upTo (f : Nat → ObjD → ObjD) (j : Nat) (os : List ObjD) : List ObjD := os.mapIdx (fun i o => if i < j then f i o else o)
theorem upTo_length (f : Nat → ObjD → ObjD) (j : Nat) (os : List ObjD) : (upTo f j os).length = os.length := by simp [upTo]
theorem upTo_zero (f : Nat → ObjD → ObjD) (os : List ObjD) : upTo f 0 os = os := by
  refine List.ext_getElem (by simp [upTo]) (fun i h1 h2 => ?_)
  simp [upTo]
theorem upTo_all (f : Nat → ObjD → ObjD) (j : Nat) (os : List ObjD) (h : os.length ≤ j) : upTo f j os = os.mapIdx f := by
  refine List.ext_getElem (by simp [upTo]) (fun i h1 h2 => ?_)
  have : i < j := by simp [upTo] at h1; omega
  simp [upTo, this]
theorem upTo_get (f : Nat → ObjD → ObjD) (j i : Nat) (os : List ObjD) (h : i < os.length) : (upTo f j os)[i]'(by rw [upTo_length]; exact h) = if i < j then f i os[i] else os[i] := by simp [upTo]
theorem upTo_step (f : Nat → ObjD → ObjD) (j : Nat) (os : List ObjD) (h : j < os.length) : upTo f (j + 1) os = (upTo f j os).set j (f j os[j]) := by
  refine List.ext_getElem (by simp [upTo]) (fun i h1 h2 => ?_)
  have hi : i < os.length := by simpa [upTo] using h1
  rw [List.getElem_set, upTo_get f (j + 1) i os hi]
  by_cases e : j = i
  · subst e; simp
  · rw [if_neg e, upTo_get f j i os hi]
    by_cases hlt : i < j
    · rw [if_pos (by omega), if_pos hlt]
    · rw [if_neg (by omega), if_neg hlt]
end Go.Proofs.Ytnjplfofcjonhaa

namespace Go.Proofs.Ytnjplfofcjonhaa
open Go.RowKit
set_option linter.unusedVariables false
set_option maxRecDepth 100000
def RC (B P : Nat) (wa : Option Addr) (wn wc : Nat) (ia : Option Addr) (im ic : Nat) (sa : Option Addr) (sn sc : Nat) (NW NI NS : List Value) : Nat → World → Value → Prop
  | 0, X, v => ∃ g, v = .slice (some ⟨g, 0, none⟩) 0 0 ∧ B ≤ g ∧ X.heap[g]? = some (.cells #[] 65 (0, 0))
  | 1, X, v => v = .pointer (some ⟨P, 1, none⟩)
  | 2, X, v => v = .slice wa wn wc
  | 3, X, v => X.ownsRow B 65 2 v wn NW
  | 4, X, v => ∃ g, v = .slice (some ⟨g, 0, none⟩) 0 0 ∧ B ≤ g ∧ X.heap[g]? = some (.cells #[] 3 (0, 0))
  | 5, X, v => v = .pointer (some ⟨P, 2, none⟩)
  | 6, X, v => v = .slice ia im ic
  | 7, X, v => X.ownsRow B 3 1 v im NI
  | 8, X, v => ∃ g, v = .slice (some ⟨g, 0, none⟩) 0 0 ∧ B ≤ g ∧ X.heap[g]? = some (.cells #[] 9 (0, 0))
  | 9, X, v => v = .pointer (some ⟨P, 3, none⟩)
  | 10, X, v => v = .slice sa sn sc
  | 11, X, v => X.ownsRow B 9 1 v sn NS
  | 12, X, v => ∃ x1 c1 x2 c2 x3 c3, v = .agg #[.slice none 0 0, .slice x1 wn c1, .slice x2 im c2, .slice x3 sn c3] ∧ X.ownsRow B 65 2 (.slice x1 wn c1) wn NW ∧ X.ownsRow B 3 1 (.slice x2 im c2) im NI ∧ X.ownsRow B 9 1 (.slice x3 sn c3) sn NS
  | 13, X, v => ∃ g, v = .pointer (some ⟨g, 0, none⟩) ∧ B ≤ g ∧ Four X g (.slice none 0 0) (.slice none 0 0) (.slice none 0 0) (.slice none 0 0)
  | _, _, _ => True
theorem rc_mono {B P : Nat} {wa : Option Addr} {wn wc : Nat} {ia : Option Addr} {im ic : Nat} {sa : Option Addr} {sn sc : Nat} {NW NI NS : List Value} (i : Nat) (X Y : World) (v : Value) (h : RC B P wa wn wc ia im ic sa sn sc NW NI NS i X v) (hb : Below X.heap.size X Y) : RC B P wa wn wc ia im ic sa sn sc NW NI NS i Y v := by
  have blk : ∀ (g : Nat) (o : Obj), X.heap[g]? = some o → Y.heap[g]? = some o := fun g o hg => (hb.block g (Array.getElem?_eq_some_iff.1 hg).1).trans hg
  match i, h with
  | 0, ⟨g, h1, h2, h3⟩ => exact ⟨g, h1, h2, blk g _ h3⟩
  | 1, h => exact h
  | 2, h => exact h
  | 3, h => exact row_later h hb
  | 4, ⟨g, h1, h2, h3⟩ => exact ⟨g, h1, h2, blk g _ h3⟩
  | 5, h => exact h
  | 6, h => exact h
  | 7, h => exact row_later h hb
  | 8, ⟨g, h1, h2, h3⟩ => exact ⟨g, h1, h2, blk g _ h3⟩
  | 9, h => exact h
  | 10, h => exact h
  | 11, h => exact row_later h hb
  | 12, ⟨x1, c1, x2, c2, x3, c3, h1, h2, h3, h4⟩ => exact ⟨x1, c1, x2, c2, x3, c3, h1, row_later h2 hb, row_later h3 hb, row_later h4 hb⟩
  | 13, ⟨g, h1, h2, h3⟩ => exact ⟨g, h1, h2, h3.later hb⟩
  | n + 14, _ => exact trivial
set_option maxHeartbeats 4000000 in
theorem sCopy_calls (v : Value) (H : HeapD) (w : World) (h : RdH w v H) (hs : SmallH H) :
    Calls Try.prog 51 #[v] w fun e w' => ∃ s : HSh, e = .returned s.v ∧ HM w' w.heap.size s H ∧ Below w.heap.size w w' := by
  obtain ⟨ao, co, aw, cw, ab, cb, sa, sc, rfl, ro, rwk, ri, rs⟩ := h
  have l0 := hs.objs
  have l1 := hs.weaks
  have l2 := hs.buffer
  have l3 := hs.sites
  obtain ⟨W, hW⟩ : ∃ W, W = (w.alloc (.cells #[.slice ao H.objs.length co, .slice aw H.weaks.length cw, .slice ab H.buffer.length cb, .slice sa H.sites.length sc] 29)).alloc (.cells #[.slice none 0 0, .slice none 0 0, .slice none 0 0, .slice none 0 0] 29) := ⟨_, rfl⟩
  have BW : Below w.heap.size w W := by rw [hW]; exact ((Below.refl _ _).alloc (Nat.le_refl _) _).alloc (by simp) _
  have hWs : W.heap.size = w.heap.size + 2 := by rw [hW]; simp
  have FP : Four W w.heap.size (.slice ao H.objs.length co) (.slice aw H.weaks.length cw) (.slice ab H.buffer.length cb) (.slice sa H.sites.length sc) := by
    have f1 := Four.new w (.slice ao H.objs.length co) (.slice aw H.weaks.length cw) (.slice ab H.buffer.length cb) (.slice sa H.sites.length sc)
    have hb2 : Below (w.heap.size + 1) (w.alloc (.cells #[.slice ao H.objs.length co, .slice aw H.weaks.length cw, .slice ab H.buffer.length cb, .slice sa H.sites.length sc] 29)) W := by rw [hW]; exact (Below.refl _ _).alloc (by simp) _
    exact (hb2.block w.heap.size (by omega)).trans f1
  have FR : Four W (w.heap.size + 1) (.slice none 0 0) (.slice none 0 0) (.slice none 0 0) (.slice none 0 0) := by
    rw [hW]
    have f1 := Four.new (w.alloc (.cells #[.slice ao H.objs.length co, .slice aw H.weaks.length cw, .slice ab H.buffer.length cb, .slice sa H.sites.length sc] 29)) (.slice none 0 0) (.slice none 0 0) (.slice none 0 0) (.slice none 0 0)
    simpa using f1
  have HSW : Hid (SrcC W aw H.weaks.length 2 (H.weaks.flatMap cellsW)) := (srcW rwk).later BW
  have HSI : Hid (SrcC W ab H.buffer.length 1 (H.buffer.map intV)) := (srcI ri).later BW
  have HSS : Hid (SrcC W sa H.sites.length 1 (H.sites.map strV)) := (srcS rs).later BW
  have HRO : Hid (RdO W ao H.objs) := rdO_later ro BW
  have HFP : Hid (Four W w.heap.size (.slice ao H.objs.length co) (.slice aw H.weaks.length cw) (.slice ab H.buffer.length cb) (.slice sa H.sites.length sc)) := FP
  have HFR : Hid (Four W (w.heap.size + 1) (.slice none 0 0) (.slice none 0 0) (.slice none 0 0) (.slice none 0 0)) := FR
  have HFL : Hid (∀ z ∈ H.objs, z.field.length ≤ 1048576) := hs.fields
  have HBW : Hid (Below w.heap.size w W) := BW
  have HWs : Hid (W.heap.size = w.heap.size + 2) := hWs
  clear ro rwk ri rs FP FR hs BW
  go_enter Try.func51, Try.ntmps51
  go_wp2
  rw [← hW]
  clear hW
  refine wp_region_last 14 (by kernel_rfl) (by kernel_rfl) (RC W.heap.size w.heap.size aw H.weaks.length cw ab H.buffer.length cb sa H.sites.length sc (H.weaks.flatMap cellsW) (H.buffer.map intV) (H.sites.map strV)) rc_mono ?_ ?_
  · intro i o hi ho a X hX hA hdep
    have FX := HFP.out.later hX
    have hXs := hX.size
    match i, hi, ho with
    | 0, _, ho =>
      obtain rfl := Option.some.inj ho
      exact opNewW ⟨_, rfl, (Below.refl _ _).alloc (Nat.le_refl _) _, X.heap.size, rfl, hXs, fresh_at X _⟩
    | 1, _, ho =>
      obtain rfl := Option.some.inj ho
      exact opField 1 (by omega) (alike_at hA (t := 1) (by kernel_rfl)) ⟨_, rfl, Below.refl _ _, rfl⟩
    | 2, _, ho =>
      obtain rfl := Option.some.inj ho
      have e1 : a.eval (.tmp 7) = .pointer (some ⟨w.heap.size, 1, none⟩) := hdep ⟨1, .data⟩ (by simp) rfl 7 rfl
      exact opLoadW e1 (FX.cell 1) ⟨_, rfl, Below.refl _ _, rfl⟩
    | 3, _, ho =>
      obtain rfl := Option.some.inj ho
      obtain ⟨g, e1, gB, hg⟩ := hdep ⟨0, .data⟩ (by simp) rfl 6 rfl
      have e2 : a.eval (.tmp 8) = .slice aw H.weaks.length cw := hdep ⟨2, .data⟩ (by simp) rfl 8 rfl
      exact wp_append_fresh elW _ _ rfl g W.heap.size hg gB aw H.weaks.length cw _ e1 e2 (HSW.out.later hX) (by omega) (by omega) (fun v' w' r b _ => ⟨_, rfl, b, r⟩)
    | 4, _, ho =>
      obtain rfl := Option.some.inj ho
      exact opNewI ⟨_, rfl, (Below.refl _ _).alloc (Nat.le_refl _) _, X.heap.size, rfl, hXs, fresh_at X _⟩
    | 5, _, ho =>
      obtain rfl := Option.some.inj ho
      exact opField 2 (by omega) (alike_at hA (t := 1) (by kernel_rfl)) ⟨_, rfl, Below.refl _ _, rfl⟩
    | 6, _, ho =>
      obtain rfl := Option.some.inj ho
      have e1 : a.eval (.tmp 11) = .pointer (some ⟨w.heap.size, 2, none⟩) := hdep ⟨5, .data⟩ (by simp) rfl 11 rfl
      exact opLoadI e1 (FX.cell 2) ⟨_, rfl, Below.refl _ _, rfl⟩
    | 7, _, ho =>
      obtain rfl := Option.some.inj ho
      obtain ⟨g, e1, gB, hg⟩ := hdep ⟨4, .data⟩ (by simp) rfl 10 rfl
      have e2 : a.eval (.tmp 12) = .slice ab H.buffer.length cb := hdep ⟨6, .data⟩ (by simp) rfl 12 rfl
      exact wp_append_fresh elI _ _ rfl g W.heap.size hg gB ab H.buffer.length cb _ e1 e2 (HSI.out.later hX) (by omega) (by omega) (fun v' w' r b _ => ⟨_, rfl, b, r⟩)
    | 8, _, ho =>
      obtain rfl := Option.some.inj ho
      exact opNewS ⟨_, rfl, (Below.refl _ _).alloc (Nat.le_refl _) _, X.heap.size, rfl, hXs, fresh_at X _⟩
    | 9, _, ho =>
      obtain rfl := Option.some.inj ho
      exact opField 3 (by omega) (alike_at hA (t := 1) (by kernel_rfl)) ⟨_, rfl, Below.refl _ _, rfl⟩
    | 10, _, ho =>
      obtain rfl := Option.some.inj ho
      have e1 : a.eval (.tmp 15) = .pointer (some ⟨w.heap.size, 3, none⟩) := hdep ⟨9, .data⟩ (by simp) rfl 15 rfl
      exact opLoadS e1 (FX.cell 3) ⟨_, rfl, Below.refl _ _, rfl⟩
    | 11, _, ho =>
      obtain rfl := Option.some.inj ho
      obtain ⟨g, e1, gB, hg⟩ := hdep ⟨8, .data⟩ (by simp) rfl 14 rfl
      have e2 : a.eval (.tmp 16) = .slice sa H.sites.length sc := hdep ⟨10, .data⟩ (by simp) rfl 16 rfl
      exact wp_append_fresh elS _ _ rfl g W.heap.size hg gB sa H.sites.length sc _ e1 e2 (HSS.out.later hX) (by omega) (by omega) (fun v' w' r b _ => ⟨_, rfl, b, r⟩)
    | 12, _, ho =>
      obtain rfl := Option.some.inj ho
      have r1 : X.ownsRow W.heap.size 65 2 (a.eval (.tmp 9)) H.weaks.length (H.weaks.flatMap cellsW) := hdep ⟨3, .data⟩ (by simp) rfl 9 rfl
      have r2 : X.ownsRow W.heap.size 3 1 (a.eval (.tmp 13)) H.buffer.length (H.buffer.map intV) := hdep ⟨7, .data⟩ (by simp) rfl 13 rfl
      have r3 : X.ownsRow W.heap.size 9 1 (a.eval (.tmp 17)) H.sites.length (H.sites.map strV) := hdep ⟨11, .data⟩ (by simp) rfl 17 rfl
      obtain ⟨x1, c1, e1, _⟩ := row_form r1
      obtain ⟨x2, c2, e2, _⟩ := row_form r2
      obtain ⟨x3, c3, e3, _⟩ := row_form r3
      rw [e1] at r1
      rw [e2] at r2
      rw [e3] at r3
      exact opBuild3 e1 e2 e3 ⟨_, rfl, Below.refl _ _, x1, c1, x2, c2, x3, c3, rfl, r1, r2, r3⟩
    | 13, _, ho =>
      obtain rfl := Option.some.inj ho
      exact opAlloc ⟨_, rfl, (Below.refl _ _).alloc (Nat.le_refl _) _, X.heap.size, rfl, hXs, Four.new X _ _ _ _⟩
  · intro o ho a X hX hA hdep
    obtain rfl := Option.some.inj ho
    obtain ⟨g, e1, gB, hf⟩ := hdep ⟨13, .data⟩ (by simp) rfl 3 rfl
    obtain ⟨x1, c1, x2, c2, x3, c3, e2, r1, r2, r3⟩ := hdep ⟨12, .data⟩ (by simp) rfl 18 rfl
    refine opStoreH e1 e2 hf ?_
    obtain ⟨us, hus, rfl⟩ := alike_tmps hA [6, 7, 8, 9, 10, 11, 12, 13, 14, 15, 16, 17, 18, 3] (by kernel_rfl)
    have e3 : us 3 = .pointer (some ⟨g, 0, none⟩) := (hus 3).symm.trans e1
    have HC : Hid (CI W (setFour X g (.slice none 0 0) (.slice x1 H.weaks.length c1) (.slice x2 H.buffer.length c2) (.slice x3 H.sites.length c3)) W.heap.size g H (.slice none 0 0) x1 c1 x2 c2 x3 c3 [] 0) := by
      have ne : ∀ {n sz : Nat} {e : TypeId} {v : Value} {xs : List Value}, X.ownsRow W.heap.size e sz v n xs → e ≠ 29 → (setFour X g (.slice none 0 0) (.slice x1 H.weaks.length c1) (.slice x2 H.buffer.length c2) (.slice x3 H.sites.length c3)).ownsRow W.heap.size e sz v n xs := fun hr hne => row_same hr (fun i hi => by
        obtain ⟨cur, hc⟩ := row_kind hr i hi
        exact setFour_other _ _ _ _ _ _ i (kind_ne hc hf hne))
      refine ⟨?_, hf.setAll _ _ _ _, gB, World.ownsRow_nil _ _ _ _, ne r1 (by decide), ne r2 (by decide), ne r3 (by decide), Nat.zero_le _, rfl, fun i hi => by simp at hi, List.Pairwise.nil, fun t ht => by simp at ht⟩
      unfold setFour
      exact (((hX.setCell gB _).setCell gB _).setCell gB _).setCell gB _
    clear hdep hA hus e1 e2 hf r1 r2 r3 ho
    generalize setFour X g (.slice none 0 0) (.slice x1 H.weaks.length c1) (.slice x2 H.buffer.length c2) (.slice x3 H.sites.length c3) = Y at *
    simp only [List.mapIdx_cons, List.mapIdx_nil, Nat.reduceAdd, List.contains_cons, List.contains_nil, Nat.reduceBEq, Bool.or_false, Bool.or_true, if_true, if_false, Bool.false_eq_true, e3]
    clear e3
    go_wp2
    go_loopw [4] (fun i wr => ∃ (j : Nat) (vo : Value) (fs : List OSh), i = .int .i64 (j : Int) ∧ j ≤ H.objs.length ∧ Hid (CI W wr W.heap.size g H vo x1 c1 x2 c2 x3 c3 fs j)) (fun i _ => H.objs.length - (intOf i).toNat)
    case atStart => exact ⟨0, .slice none 0 0, [], rfl, Nat.zero_le _, HC⟩
    case round =>
      obtain ⟨j, vo, fs, rfl, hjl, HI⟩ := hrel
      have hbs := HI.out.bel.size
      have hgl := HI.out.x.lt
      have p0 : wr.cell? ⟨w.heap.size, 0, none⟩ = some (.slice ao H.objs.length co) := (HI.out.bel.cell (p := ⟨w.heap.size, 0, none⟩) (by show w.heap.size < _; omega)).trans (HFP.out.cell 0)
      by_cases hlt : j < H.objs.length
      · obtain ⟨g2, off, f, fc, rfl, hg2, hc, hr⟩ := rdO_later HRO.out HI.out.bel j hlt
        have hfl := HFL.out _ (List.getElem_mem hlt)
        have HST : Hid (∀ (w5 w6 : World) (v2 : Value) (t : OSh), Below wr.heap.size wr w5 → t.n = H.objs[j].field.length → ownI w5 wr.heap.size (.slice t.f t.n t.c) H.objs[j].field → w6.ownsRow W.heap.size 39 8 v2 (j + 1) (((H.objs.take j).zip fs).flatMap cellsOb ++ cellsOb (H.objs[j], t)) → w5.grownBy w6 vo.ownBlock → CI W (w6.setCell ⟨g, 0, none⟩ v2) W.heap.size g H v2 x1 c1 x2 c2 x3 c3 (fs ++ [t]) (j + 1)) :=
          fun w5 w6 v2 t b5 hn ht r6 g6 => ci_step HI.out hbs hlt b5 t hn ht r6 g6
        have HX : Hid (Four wr g vo (.slice x1 H.weaks.length c1) (.slice x2 H.buffer.length c2) (.slice x3 H.sites.length c3)) := HI.out.x
        have HR0 : Hid (wr.ownsRow W.heap.size 39 8 vo j (((H.objs.take j).zip fs).flatMap cellsOb)) := HI.out.ro
        have HRI : Hid (SrcC wr f H.objs[j].field.length 1 (H.objs[j].field.map intV)) := srcI hr
        obtain ⟨o, ho⟩ : ∃ o, H.objs[j] = o := ⟨_, rfl⟩
        rw [ho] at hc hfl HST HRI
        generalize ((H.objs.take j).zip fs).flatMap cellsOb = XS at HST HR0
        clear ho hr HI
        obtain ⟨d0, d1, d2, d3, d4, d5, d6, d7⟩ := hc
        obtain ⟨V, hV⟩ : ∃ V, V = wr.alloc (.cells #[.bool o.live, .int .i64 o.gen, .int .i64 o.site, .int .i64 o.holds, .int .i64 o.roots, .int .i64 o.count, .slice f o.field.length fc, .bool o.purple] 39) := ⟨_, rfl⟩
        have BV : Below wr.heap.size wr V := by rw [hV]; exact (Below.refl _ _).alloc (Nat.le_refl _) _
        have hVs : V.heap.size = wr.heap.size + 1 := by rw [hV]; simp
        have HOV : Hid (OBx V wr.heap.size o (.slice f o.field.length fc)) := by rw [hV]; exact heap_alloc_new wr _
        have HBV : Hid (Below wr.heap.size wr V) := BV
        have v6 : V.cell? ⟨wr.heap.size, 6, none⟩ = some (.slice f o.field.length fc) := HOV.out.cell 6
        have hlq : wr.heap.size < V.heap.size := by omega
        have hnq : ¬ wr.heap.size = V.heap.size := by omega
        clear BV
        go_wp2_with (at_builtin; rw [← hV]; clear hV; refine wpList_append_fresh elI rfl _ _ rfl (wr.heap.size + 1) (wr.heap.size + 1) ?hg (Nat.le_refl _) f o.field.length fc (o.field.map intV) rfl rfl ?hs ?hm ?hby ?_)
        case hg => rw [← hVs]; exact fresh_at V _
        case hs => exact (HRI.out.later HBV.out).later ((Below.refl _ _).alloc (Nat.le_refl _) _)
        case hm => omega
        case hby => omega
        intro v3 w3 r3 b3 _
        obtain ⟨f3, c3', rfl, -⟩ := row_form r3
        clear v6 d0 d1 d2 d3 d4 d5 d6 d7 p0
        have b4 : Below V.heap.size (V.alloc (.cells #[] 3)) w3 := b3.mono (by first | omega | simp)
        have B3 : Below V.heap.size V w3 := ((Below.refl _ _).alloc (Nat.le_refl _) _).trans b4
        clear b4
        have T3 : Below wr.heap.size wr w3 := HBV.out.trans (B3.mono (by omega))
        have O3 := HOV.out.later B3
        have X3 := HX.out.later T3
        have q0 := O3.cell 0
        have q1 := O3.cell 1
        have q2 := O3.cell 2
        have q3 := O3.cell 3
        have q4 := O3.cell 4
        have q5 := O3.cell 5
        have q6 := O3.cell 6
        have q7 := O3.cell 7
        have z6 := O3.frozen 6
        have y0 := X3.cell 0
        have hgq : ¬ g = wr.heap.size := by omega
        have hqg : ¬ wr.heap.size = g := by omega
        have s3 := B3.size
        have hq3 : wr.heap.size < w3.heap.size := by omega
        have hg3 : g < w3.heap.size := by omega
        have hq4 : ¬ wr.heap.size = w3.heap.size := by omega
        have hg4 : ¬ g = w3.heap.size := by omega
        simp only [List.getElem?_toArray, List.getElem?_cons_zero, List.getElem?_cons_succ] at q0 q1 q2 q3 q4 q5 q6 q7 y0
        have HO3 : Hid (OBx w3 wr.heap.size o (.slice f o.field.length fc)) := O3
        have HX3 : Hid (Four w3 g vo (.slice x1 H.weaks.length c1) (.slice x2 H.buffer.length c2) (.slice x3 H.sites.length c3)) := X3
        have HT3 : Hid (Below wr.heap.size wr w3) := T3
        have HR3 : Hid (w3.ownsRow (wr.heap.size + 1) 3 1 (.slice f3 o.field.length c3') o.field.length (o.field.map intV)) := r3
        clear O3 X3 T3 B3 b3 r3
        obtain ⟨W5, hW5⟩ : ∃ W5, W5 = (w3.setCell ⟨wr.heap.size, 6, none⟩ (.slice f3 o.field.length c3')).alloc (.cells #[.bool o.live, .int .i64 o.gen, .int .i64 o.site, .int .i64 o.holds, .int .i64 o.roots, .int .i64 o.count, .slice f3 o.field.length c3', .bool o.purple] 39) := ⟨_, rfl⟩
        have hS4 : (w3.setCell ⟨wr.heap.size, 6, none⟩ (.slice f3 o.field.length c3')).heap.size = w3.heap.size := by simp [World.setCell]
        have HT5 : Hid (Below wr.heap.size wr W5) := by rw [hW5]; exact (HT3.out.setCell (by simp only; omega) _).alloc (by rw [hS4]; omega) _
        have HO5 : Hid (OBx W5 w3.heap.size o (.slice f3 o.field.length c3')) := by
          rw [hW5, ← hS4]; exact heap_alloc_new _ _
        have HR5 : Hid (ownI W5 wr.heap.size (.slice f3 o.field.length c3') o.field) := by
          have r := HR3.out
          rw [hW5]
          refine World.ownsRow.alloc (row_same (row_mono r (by omega)) (fun i hi => ?_)) _
          have := (World.ownsRow.lt r i hi).1
          exact heap_setCell_other _ _ _ _ (by simp only; omega)
        have hs5 : W5.heap.size = w3.heap.size + 1 := by rw [hW5]; simp [World.setCell]
        have HX5 : Hid (Four W5 g vo (.slice x1 H.weaks.length c1) (.slice x2 H.buffer.length c2) (.slice x3 H.sites.length c3)) := HX.out.later HT5.out
        have HRO5 : Hid (W5.ownsRow W.heap.size 39 8 vo j XS) := row_later HR0.out HT5.out
        clear hS4
        go_wp2_with (at_builtin; rw [← hW5]; clear hW5; refine wpList_appendO rfl _ _ rfl W.heap.size vo j XS rfl HRO5.out w3.heap.size (o, ⟨f3, o.field.length, c3'⟩) rfl HO5.out (by omega) (by omega) ?_)
        intro v6 w6 r6 g6
        rw [← HWs.out] at r6
        obtain ⟨f6, c6, rfl, -⟩ := row_form r6
        have hx6 : w6.heap[g]? = W5.heap[g]? := g6.block g (by omega) (fun e2 => by
          obtain ⟨cur2, hc⟩ := row_kind HRO5.out g e2.symm
          exact kind_ne hc HX5.out (by decide) rfl)
        have X6 := HX5.out.same hx6
        have y6 := X6.cell 0
        have z7 := X6.frozen 0
        simp only [List.getElem?_toArray, List.getElem?_cons_zero] at y6
        have HN : Hid _ := HST.out W5 w6 _ ⟨f3, o.field.length, c3'⟩ HT5.out rfl HR5.out r6 g6
        clear q0 q1 q2 q3 q4 q5 q6 q7 y0 z6 r6 g6 hx6 X6
        go_wp2
        go_roundw
        case rel => exact ⟨j + 1, _, _, by go_num, by omega, HN⟩
        case measure => simp [intOf]; omega
      · obtain rfl : j = H.objs.length := by omega
        obtain ⟨oa, oc, rfl, -⟩ := row_form HI.out.ro
        have HE : Hid _ := ci_end HI.out
        have XF := HI.out.x
        have RF := (HI.out.bel.block (w.heap.size + 1) (by omega)).trans HFR.out
        have RF2 : Four wr (w.heap.size + 1) (.slice none 0 0) (.slice none 0 0) (.slice none 0 0) (.slice none 0 0) := RF
        have x0 := XF.cell 0
        have x1' := XF.cell 1
        have x2' := XF.cell 2
        have x3' := XF.cell 3
        have r0 := RF2.cell 0
        have r1 := RF2.cell 1
        have r2 := RF2.cell 2
        have r3 := RF2.cell 3
        have z0 := RF2.frozen 0
        have z1 := RF2.frozen 1
        have z2 := RF2.frozen 2
        have z3 := RF2.frozen 3
        simp only [List.getElem?_toArray, List.getElem?_cons_zero, List.getElem?_cons_succ] at x0 x1' x2' x3' r0 r1 r2 r3
        have HBl : Hid (Below w.heap.size w wr) := HBW.out.trans (HI.out.bel.mono HBW.out.size)
        clear XF RF RF2 HI
        go_wp2
        refine bodyPost_ret (v := .agg #[.slice oa H.objs.length oc, .slice x1 H.weaks.length c1, .slice x2 H.buffer.length c2, .slice x3 H.sites.length c3]) (by simp [results, Try.results51, go_sem, *]) rfl ⟨⟨oa, oc, fs, x1, H.weaks.length, c1, x2, H.buffer.length, c2, x3, H.sites.length, c3⟩, ?_, ?_, ?_⟩
        · rw [HSh.v, HE.out.lo]
        · refine hm_mono (hm_keepB HE.out ?_) (by omega)
          refine (((keepB_set _ _ ⟨w.heap.size + 1, 0, none⟩ _ (by simp only; omega)).trans (keepB_set _ _ ⟨w.heap.size + 1, 1, none⟩ _ (by simp only; omega))).trans (keepB_set _ _ ⟨w.heap.size + 1, 2, none⟩ _ (by simp only; omega))).trans (keepB_set _ _ ⟨w.heap.size + 1, 3, none⟩ _ (by simp only; omega))
        · iterate 4 refine Below.setCell ?_ (by simp only; omega) _
          exact HBl.out
end Go.Proofs.Ytnjplfofcjonhaa

namespace Go.Proofs.Ytnjplfofcjonhaa
open Go.RowKit
set_option linter.unusedVariables false
set_option maxRecDepth 100000
theorem strClone_calls (s : ByteArray) (w : World) (h : s.size ≤ 281474976710656) : Calls Try.prog 84 #[.string s] w fun e w' => e = .returned (.string s) ∧ Below w.heap.size w w' := by
  go_enter Try.func84, Try.ntmps84
  go_wp2_with fail
  refine (Try.stringslite_Clone s w h).mono ?_
  rintro e w1 ⟨rfl, b1⟩
  go_wp2
  go_ret
  exact ⟨rfl, b1⟩
theorem opCallO {t i : Tmp} {ty : TypeId} {pos : String} {af : Array Edge} {ats : Array TypeId} {a : Act} {X : World} {K : Act → World → Prop} {Q : Exit → Act → World → Prop} {v : Value} {post : Ending → World → Prop} (h1 : a.eval (.tmp i) = v) (hC : Calls Try.prog 81 #[v] X post) (hK : ∀ e w', post e w' → ∃ x, e = .returned x ∧ K (a.put (some t) x) w') :
    Oper.wp Try.prog ⟨some t, .call { callee := .value (.func 81), args := #[.tmp i], argTypes := ats }, ty, pos, af, none⟩ a X K Q := by
  have h := ev_tmp h1
  go_simp
  refine hC.mono (fun e w' hp => ?_)
  obtain ⟨x, rfl, hx⟩ := hK e w' hp
  exact hx
theorem opCallW {t i : Tmp} {ty : TypeId} {pos : String} {af : Array Edge} {ats : Array TypeId} {a : Act} {X : World} {K : Act → World → Prop} {Q : Exit → Act → World → Prop} {v : Value} {post : Ending → World → Prop} (h1 : a.eval (.tmp i) = v) (hC : Calls Try.prog 82 #[v] X post) (hK : ∀ e w', post e w' → ∃ x, e = .returned x ∧ K (a.put (some t) x) w') :
    Oper.wp Try.prog ⟨some t, .call { callee := .value (.func 82), args := #[.tmp i], argTypes := ats }, ty, pos, af, none⟩ a X K Q := by
  have h := ev_tmp h1
  go_simp
  refine hC.mono (fun e w' hp => ?_)
  obtain ⟨x, rfl, hx⟩ := hK e w' hp
  exact hx
theorem opCallI {t i : Tmp} {ty : TypeId} {pos : String} {af : Array Edge} {ats : Array TypeId} {a : Act} {X : World} {K : Act → World → Prop} {Q : Exit → Act → World → Prop} {v : Value} {post : Ending → World → Prop} (h1 : a.eval (.tmp i) = v) (hC : Calls Try.prog 36 #[v] X post) (hK : ∀ e w', post e w' → ∃ x, e = .returned x ∧ K (a.put (some t) x) w') :
    Oper.wp Try.prog ⟨some t, .call { callee := .value (.func 36), args := #[.tmp i], argTypes := ats }, ty, pos, af, none⟩ a X K Q := by
  have h := ev_tmp h1
  go_simp
  refine hC.mono (fun e w' hp => ?_)
  obtain ⟨x, rfl, hx⟩ := hK e w' hp
  exact hx
theorem opCallS {t i : Tmp} {ty : TypeId} {pos : String} {af : Array Edge} {ats : Array TypeId} {a : Act} {X : World} {K : Act → World → Prop} {Q : Exit → Act → World → Prop} {v : Value} {post : Ending → World → Prop} (h1 : a.eval (.tmp i) = v) (hC : Calls Try.prog 83 #[v] X post) (hK : ∀ e w', post e w' → ∃ x, e = .returned x ∧ K (a.put (some t) x) w') :
    Oper.wp Try.prog ⟨some t, .call { callee := .value (.func 83), args := #[.tmp i], argTypes := ats }, ty, pos, af, none⟩ a X K Q := by
  have h := ev_tmp h1
  go_simp
  refine hC.mono (fun e w' hp => ?_)
  obtain ⟨x, rfl, hx⟩ := hK e w' hp
  exact hx
structure DI (W wr : World) (B g : Nat) (H : HeapD) (oa : Option Addr) (oc : Nat) (wa : Option Addr) (wc : Nat) (ba : Option Addr) (bc : Nat) (sa : Option Addr) (sc : Nat) (fs : List OSh) (j : Nat) : Prop where
  bel : Below B W wr
  x : Four wr g (.slice oa H.objs.length oc) (.slice wa H.weaks.length wc) (.slice ba H.buffer.length bc) (.slice sa H.sites.length sc)
  gB : B ≤ g
  og : ∀ y, oa = some y → B ≤ y.block ∧ y.block < wr.heap.size ∧ ∃ cur, wr.heap[y.block]? = some (.cells cur 39 (0, 0))
  fl : fs.length = H.objs.length
  o : ∀ i (h : i < H.objs.length) (h2 : i < fs.length), ∃ go, oa = some ⟨go, 0, none⟩ ∧ ObjAt wr go (i * 8) H.objs[i] (.slice fs[i].f fs[i].n fs[i].c) ∧ ∀ k, k < 8 → wr.frozen? ⟨go, i * 8 + k, none⟩ = false
  rw : wr.ownsRow B 65 2 (.slice wa H.weaks.length wc) H.weaks.length (H.weaks.flatMap cellsW)
  rb : ownI wr B (.slice ba H.buffer.length bc) H.buffer
  rs : ownS wr B (.slice sa H.sites.length sc) H.sites
  nn : ∀ i (h : i < H.objs.length) (h2 : i < fs.length), fs[i].n = H.objs[i].field.length
  f : ∀ i (h : i < H.objs.length) (h2 : i < fs.length), i < j → ownI wr B (.slice fs[i].f fs[i].n fs[i].c) H.objs[i].field
  src : ∀ i (h : i < H.objs.length) (h2 : i < fs.length), j ≤ i → RdI W fs[i].f H.objs[i].field
  ff : ∀ a b (ha : a < fs.length) (hb : b < fs.length), a < b → b < j → Dif fs[a].f fs[b].f
  fb : ∀ i (h2 : i < fs.length), i < j → Dif ba fs[i].f
theorem di_step {W wr w1 : World} {B g : Nat} {H : HeapD} {oa : Option Addr} {oc : Nat} {wa : Option Addr} {wc : Nat} {ba : Option Addr} {bc : Nat} {sa : Option Addr} {sc : Nat} {fs : List OSh} {j : Nat} (h : DI W wr B g H oa oc wa wc ba bc sa sc fs j) (hB : B ≤ wr.heap.size) (hj : j < H.objs.length) (b1 : Below wr.heap.size wr w1) (go : Nat) (hgo : oa = some ⟨go, 0, none⟩) (t : OSh) (hn : t.n = H.objs[j].field.length) (ht : ownI w1 wr.heap.size (.slice t.f t.n t.c) H.objs[j].field) :
    DI W (w1.setCell ⟨go, j * 8 + 6, none⟩ (.slice t.f t.n t.c)) B g H oa oc wa wc ba bc sa sc (fs.set j t) (j + 1) := by
  obtain ⟨ob, ol, cur, ok⟩ := h.og _ hgo
  simp only at ob ol ok
  have ok1 : w1.heap[go]? = some (.cells cur 39 (0, 0)) := (b1.block go ol).trans ok
  have hs1 := b1.size
  have hj2 : j < fs.length := by rw [h.fl]; exact hj
  have keep : ∀ (i : Nat) (cu : Array Value) (e : TypeId), w1.heap[i]? = some (.cells cu e (0, 0)) → e ≠ 39 → (w1.setCell ⟨go, j * 8 + 6, none⟩ (.slice t.f t.n t.c)).heap[i]? = w1.heap[i]? := fun i cu e hi hne => heap_setCell_other _ _ _ _ (by exact kind_ne hi ok1 hne)
  have keepR : ∀ {n sz C : Nat} {e : TypeId} {v : Value} {xs : List Value}, w1.ownsRow C e sz v n xs → e ≠ 39 → (w1.setCell ⟨go, j * 8 + 6, none⟩ (.slice t.f t.n t.c)).ownsRow C e sz v n xs := by
    intro n sz C e v xs hr h1
    refine row_same hr (fun i hi => ?_)
    obtain ⟨cu, hc⟩ := row_kind hr i hi
    exact keep i cu e hc h1
  have x1 := h.x.later b1
  have oth : ∀ i (hi : i < H.objs.length) (hi2 : i < fs.length), ObjAt w1 go (i * 8) H.objs[i] (.slice fs[i].f fs[i].n fs[i].c) ∧ ∀ k, k < 8 → w1.frozen? ⟨go, i * 8 + k, none⟩ = false := by
    intro i hi hi2
    obtain ⟨g2, h1, h2, h3⟩ := h.o i hi hi2
    rw [hgo] at h1; injection h1 with h1; injection h1 with h1 _ _; subst h1
    exact ⟨h2.keep (fun k => b1.cell (p := ⟨go, k, none⟩) ol), fun k hk => (b1.frozen (p := ⟨go, i * 8 + k, none⟩) ol).trans (h3 k hk)⟩
  refine ⟨(h.bel.trans (b1.mono hB)).setCell ob _, x1.same (keep g _ _ x1 (by decide)), h.gB, fun y hy => ?_, by simp [h.fl], ?_, keepR (row_later h.rw b1) (by decide), keepR (ownI_later h.rb b1) (by decide), keepR (ownS_later h.rs b1) (by decide), ?_, ?_, ?_, ?_, ?_⟩
  · rw [hgo] at hy; injection hy with hy; subst hy
    exact ⟨ob, by simp only [World.setCell, Array.size_modify]; omega, _, heap_setCell_same w1 go _ _ _ _ ok1⟩
  · intro i hi hi2
    simp only [List.length_set] at hi2
    obtain ⟨h2, h3⟩ := oth i hi hi2
    refine ⟨go, hgo, ?_, fun k hk => by rw [World.frozen?_setCell]; exact h3 k hk⟩
    by_cases e : j = i
    · subst e
      simp only [List.getElem_set_self]
      exact ⟨by rw [cell_far _ _ _ _ _ (by omega)]; exact h2.c0, by rw [cell_far _ _ _ _ _ (by omega)]; exact h2.c1, by rw [cell_far _ _ _ _ _ (by omega)]; exact h2.c2, by rw [cell_far _ _ _ _ _ (by omega)]; exact h2.c3, by rw [cell_far _ _ _ _ _ (by omega)]; exact h2.c4,
        by rw [cell_far _ _ _ _ _ (by omega)]; exact h2.c5, World.cell?_setCell_same w1 _ _ h2.c6, by rw [cell_far _ _ _ _ _ (by omega)]; exact h2.c7⟩
    · simp only [List.getElem_set_ne e]
      exact ⟨by rw [cell_far _ _ _ _ _ (by omega)]; exact h2.c0, by rw [cell_far _ _ _ _ _ (by omega)]; exact h2.c1, by rw [cell_far _ _ _ _ _ (by omega)]; exact h2.c2, by rw [cell_far _ _ _ _ _ (by omega)]; exact h2.c3, by rw [cell_far _ _ _ _ _ (by omega)]; exact h2.c4,
        by rw [cell_far _ _ _ _ _ (by omega)]; exact h2.c5, by rw [cell_far _ _ _ _ _ (by omega)]; exact h2.c6, by rw [cell_far _ _ _ _ _ (by omega)]; exact h2.c7⟩
  · intro i hi hi2
    simp only [List.length_set] at hi2
    by_cases e : j = i
    · subst e; simp only [List.getElem_set_self]; exact hn
    · simp only [List.getElem_set_ne e]; exact h.nn i hi hi2
  · intro i hi hi2 hij
    simp only [List.length_set] at hi2
    by_cases e : j = i
    · subst e; simp only [List.getElem_set_self]; exact keepR (ownI_mono ht hB) (by decide)
    · simp only [List.getElem_set_ne e]; exact keepR (ownI_later (h.f i hi hi2 (by omega)) b1) (by decide)
  · intro i hi hi2 hij
    simp only [List.length_set] at hi2
    simp only [List.getElem_set_ne (show j ≠ i from by omega)]
    exact h.src i hi hi2 (by omega)
  · intro a b ha hb hab hbj
    simp only [List.length_set] at ha hb
    by_cases e : j = b
    · subst e
      simp only [List.getElem_set_self, List.getElem_set_ne (show j ≠ a from by omega)]
      intro x y hx hy e2
      have h1 := (ownI_lt (h.f a (by rw [← h.fl]; exact ha) ha (by omega)) _ (own_block hx)).2
      have h2 := (ownI_lt ht _ (own_block hy)).1
      omega
    · simp only [List.getElem_set_ne e, List.getElem_set_ne (show j ≠ a from by omega)]
      exact h.ff a b ha hb hab (by omega)
  · intro i hi2 hij
    simp only [List.length_set] at hi2
    by_cases e : j = i
    · subst e
      simp only [List.getElem_set_self]
      intro x y hx hy e2
      have h1 := (ownI_lt h.rb _ (own_block hx)).2
      have h2 := (ownI_lt ht _ (own_block hy)).1
      omega
    · simp only [List.getElem_set_ne e]
      exact h.fb i hi2 (by omega)
theorem di_end {W wr : World} {B g : Nat} {H : HeapD} {oa : Option Addr} {oc : Nat} {wa : Option Addr} {wc : Nat} {ba : Option Addr} {bc : Nat} {sa : Option Addr} {sc : Nat} {fs : List OSh} (h : DI W wr B g H oa oc wa wc ba bc sa sc fs H.objs.length) :
    HM wr B ⟨oa, oc, fs, wa, H.weaks.length, wc, ba, H.buffer.length, bc, sa, H.sites.length, sc⟩ H where
  lo := h.fl
  lw := rfl
  lb := rfl
  ls := rfl
  o := h.o
  f := fun j hj hj2 => ⟨h.nn j hj hj2, h.f j hj hj2 hj⟩
  og := fun x hx => ⟨(h.og x hx).1, (h.og x hx).2.1⟩
  wk := row_weaks h.rw
  wg := row_block h.rw
  b := h.rb
  st := h.rs
  sep := by
    have hfl := h.fl
    have fk : ∀ t ∈ fs, ∃ zs : List Int, ownI wr B (.slice t.f t.n t.c) zs ∧ t.n = zs.length := by
      intro t ht
      obtain ⟨i, hi, rfl⟩ := List.mem_iff_getElem.1 ht
      exact ⟨_, h.f i (by omega) hi (by omega), h.nn i (by omega) hi⟩
    have fd : ∀ {n sz : Nat} {e : TypeId} {a : Option Addr} {c : Nat} {xs : List Value}, wr.ownsRow B e sz (.slice a n c) n xs → e ≠ 3 → ∀ t ∈ fs, Dif a t.f := by
      intro n sz e a c xs hr hne t ht
      obtain ⟨zs, hz, hzn⟩ := fk t ht
      unfold ownI at hz
      rw [← hzn] at hz
      exact row_dif hr hz hne
    have od : ∀ {n sz : Nat} {e : TypeId} {a : Option Addr} {c : Nat} {xs : List Value}, wr.ownsRow B e sz (.slice a n c) n xs → e ≠ 39 → Dif oa a := by
      intro n sz e a c xs hr hne x y hx hy e2
      obtain ⟨_, _, cur, hc⟩ := h.og x hx
      obtain ⟨cu2, hc2⟩ := row_kind hr y.block (own_block hy)
      exact kind_ne hc2 hc hne e2.symm
    have hb := h.rb
    have hs := h.rs
    unfold ownI at hb
    unfold ownS at hs
    exact ⟨od h.rw (by decide), od hb (by decide), od hs (by decide), row_dif h.rw hb (by decide), row_dif h.rw hs (by decide), row_dif hb hs (by decide), fun t ht => (by
        obtain ⟨zs, hz, hzn⟩ := fk t ht
        unfold ownI at hz
        rw [← hzn] at hz
        exact od hz (by decide)), fd h.rw (by decide), fun t ht => (by
        obtain ⟨i, hi, rfl⟩ := List.mem_iff_getElem.1 ht
        exact h.fb i hi (by have hi3 : i < fs.length := hi; omega)), fd hs (by decide), by
      rw [List.pairwise_iff_getElem]
      intro a b ha hb2 hab
      exact h.ff a b ha hb2 hab (by have hb3 : b < fs.length := hb2; omega)⟩
theorem hm_site {w : World} {B : Nat} {s : HSh} {H : HeapD} (h : HM w B s H) (j : Nat) (hj : j < H.sites.length) (g : Nat) (hg : s.sa = some ⟨g, 0, none⟩) : HM (w.setCell ⟨g, j, none⟩ (.string (txt H.sites[j]))) B s H := by
  have hp := h.sep
  have ne : ∀ x, HasB s x → (∀ y, s.sa = some y → y.block ≠ x) → (w.setCell ⟨g, j, none⟩ (.string (txt H.sites[j]))).heap[x]? = w.heap[x]? := fun x _ hx => heap_setCell_other _ _ _ _ (by exact fun e => hx _ hg e.symm)
  have hst : ownS (w.setCell ⟨g, j, none⟩ (.string (txt H.sites[j]))) B (.slice s.sa s.sn s.sc) H.sites := by
    have h1 := h.st
    rw [hg] at h1 ⊢
    have h2 := ownS_set h1 h.ls j H.sites[j]
    rw [List.set_getElem_self] at h2
    exact h2
  exact {
    lo := h.lo
    lw := h.lw
    lb := h.lb
    ls := h.ls
    o := fun i hi hi2 => by
      obtain ⟨g2, h1, h2, h3⟩ := h.o i hi hi2
      have hb := ne g2 (.inl ⟨_, h1, rfl⟩) (fun y hy e => hp.os _ y h1 hy e.symm)
      exact ⟨g2, h1, objAt_same h2 hb, fun k hk => (World.frozen?_of_block (a := ⟨g2, i * 8 + k, none⟩) hb).trans (h3 k hk)⟩
    f := fun i hi hi2 => ⟨(h.f i hi hi2).1, ownI_same (h.f i hi hi2).2 (fun x hx => by
      obtain ⟨y, hy, e⟩ := own_some hx
      exact ne x (.inr (.inr (.inr (.inr ⟨_, List.getElem_mem hi2, y, hy, e⟩)))) (fun z hz e2 => hp.fs _ (List.getElem_mem hi2) z y hz hy (by rw [e, e2])))⟩
    og := fun x hx => ⟨(h.og x hx).1, by simp only [World.setCell, Array.size_modify]; exact (h.og x hx).2⟩
    wk := fun i hi => by
      obtain ⟨g2, h1, h2, h3⟩ := h.wk i hi
      have hb := ne g2 (.inr (.inl ⟨_, h1, rfl⟩)) (fun y hy e => hp.ws _ y h1 hy e.symm)
      exact ⟨g2, h1, h2.keep (fun k => World.cell?_of_block (a := ⟨g2, k, none⟩) hb), fun k hk => (World.frozen?_of_block (a := ⟨g2, i * 2 + k, none⟩) hb).trans (h3 k hk)⟩
    wg := fun x hx => ⟨(h.wg x hx).1, by simp only [World.setCell, Array.size_modify]; exact (h.wg x hx).2⟩
    b := ownI_same h.b (fun x hx => by
      obtain ⟨y, hy, e⟩ := own_some hx
      exact ne x (.inr (.inr (.inl ⟨y, hy, e⟩))) (fun z hz e2 => hp.bs y z hy hz (by rw [e, e2])))
    st := hst
    sep := hp }
end Go.Proofs.Ytnjplfofcjonhaa
