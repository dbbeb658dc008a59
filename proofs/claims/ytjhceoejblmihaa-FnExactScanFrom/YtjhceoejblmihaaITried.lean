/- What impl.tried makes: where nothing can be tried a copy, else what is tried, in rows of its own. -/
import Derived.Test.YtjhceoejblmihaaITriedOps
import Derived.Shelf.Strconv.Clone
namespace Go.Proofs.Ytjhceoejblmihaa
open Go.RowKit
set_option linter.unusedVariables false
set_option maxRecDepth 100000

/-- What each operation of two copies yields. -/
def RU (B : Nat) (p0 s1 p3 s4 : Value) (xs ys : List Int) : Nat → World → Value → Prop
  | 0, _, v => v = p0
  | 1, _, v => v = s1
  | 2, X, v => ownI X B v xs
  | 3, _, v => v = p3
  | 4, _, v => v = s4
  | 5, X, v => ownI X B v ys
  | 6, X, v => ∃ x1 c1 x2 c2, v = .agg #[.slice x1 xs.length c1, .slice x2 ys.length c2] ∧ ownI X B (.slice x1 xs.length c1) xs ∧ ownI X B (.slice x2 ys.length c2) ys ∧ Dif2 (.slice x1 xs.length c1) (.slice x2 ys.length c2)
  | _, _, _ => True
def famU : Nat → Nat
  | 2 => 1
  | 5 => 2
  | _ => 0
def DU (i j : Nat) (u v : Value) : Prop := famU i ≠ 0 → famU j ≠ 0 → famU i ≠ famU j → Dif2 u v
theorem ru_mono {B : Nat} {p0 s1 p3 s4 : Value} {xs ys : List Int} (i : Nat) (X Y : World) (v : Value) (h : RU B p0 s1 p3 s4 xs ys i X v) (hb : Below X.heap.size X Y) : RU B p0 s1 p3 s4 xs ys i Y v := by
  match i, h with
  | 0, h => exact h
  | 1, h => exact h
  | 2, h => exact ownI_later h hb
  | 3, h => exact h
  | 4, h => exact h
  | 5, h => exact ownI_later h hb
  | 6, ⟨x1, c1, x2, c2, h1, h2, h3, h4⟩ => exact ⟨x1, c1, x2, c2, h1, ownI_later h2 hb, ownI_later h3 hb, h4⟩
  | n + 7, _ => exact trivial
theorem du_no {i j : Nat} {u v : Value} (hi : famU i = 0) : DU i j u v ∧ DU j i v u := ⟨fun h => absurd hi h, fun _ h => absurd hi h⟩
/-- A row in a new block lies apart from what was there. -/
theorem du_new {B : Nat} {p0 s1 p3 s4 : Value} {xs ys zs : List Int} {i j : Nat} {X Y : World} {u v : Value} (h : RU B p0 s1 p3 s4 xs ys j X v) (hu : ownI Y X.heap.size u zs) : DU i j u v ∧ DU j i v u := by
  have key : famU j ≠ 0 → Dif2 u v := fun hj g h1 h2 => by
    have hg := (ownI_lt hu g h1).1
    have hl : g < X.heap.size := by
      match j, h, hj with
      | 2, h, _ => exact (ownI_lt h g h2).2
      | 5, h, _ => exact (ownI_lt h g h2).2
      | 0, _, hf => exact absurd rfl hf
      | 1, _, hf => exact absurd rfl hf
      | 3, _, hf => exact absurd rfl hf
      | 4, _, hf => exact absurd rfl hf
      | 6, _, hf => exact absurd rfl hf
      | n + 7, _, hf => exact absurd rfl hf
    omega
  exact ⟨fun _ hj _ => key hj, fun hj _ _ => (key hj).symm⟩
theorem clone_calls (w : World) (a : Option Addr) (c : Nat) (zs : List Int) (hr : RdI w a zs) (hm : zs.length ≤ 16777216) :
    Calls Try.prog 80 #[.slice a zs.length c] w fun e w' => ∃ x, e = .returned x ∧ ownI w' w.heap.size x zs ∧ Below w.heap.size w w' := cloneI_calls w a zs.length c (zs.map intV) (srcI hr) hm

set_option maxHeartbeats 8000000 in
theorem iTried_no (v u f : Value) (H : HeapD) (T : TrialD) (slot : Int) (w : World) (h : RdH w v H) (ht : RdT w u T) (hs : SmallH H) (hst : SmallT T) (hno : ¬ OkT H T slot) :
    Calls Try.prog 60 #[v, u, .int .i64 slot, f] w fun e w' => ∃ s : TSh, e = .returned s.v ∧ TM w' w.heap.size s T ∧ Below w.heap.size w w' := by
  have HRH : Hid (∀ X, Below w.heap.size w X → RdH X v H) := fun X hX => rdH_later h hX
  obtain ⟨ao, co, aw, cw, ab, cb, sa, sc, rfl, -, -, -, -⟩ := h
  obtain ⟨xa, xc, ya, yc, rfl, r1, r2⟩ := ht
  have l0 := hs.objs
  have l1 := hst.counts
  have l2 := hst.colors
  generalize H.weaks.length = nw at *
  generalize H.buffer.length = nb at *
  generalize H.sites.length = ns at *
  have HCX : Hid (∀ X, Below w.heap.size w X → _) := fun X hX => clone_calls X xa xc T.counts (rdI_later r1 hX) (by omega)
  have HCY : Hid (∀ X, Below w.heap.size w X → _) := fun X hX => clone_calls X ya yc T.colors (rdI_later r2 hX) (by omega)
  obtain ⟨lo, hlo⟩ : ∃ lo, H.objs.length = lo := ⟨_, rfl⟩
  obtain ⟨lx, hlx⟩ : ∃ lx, T.counts.length = lx := ⟨_, rfl⟩
  obtain ⟨ly, hly⟩ : ∃ ly, T.colors.length = ly := ⟨_, rfl⟩
  have HLO : Hid (H.objs.length = lo) := hlo
  have HLX : Hid (T.counts.length = lx) := hlx
  have HLY : Hid (T.colors.length = ly) := hly
  rw [hlx] at HCX
  rw [hly] at HCY
  rw [hlo, hlx, hly]
  rw [hlo] at l0 HRH
  rw [hlx] at l1
  rw [hly] at l2
  clear hlo hlx hly
  obtain ⟨W, hW⟩ : ∃ W, W = ((w.alloc (.cells #[.slice ao lo co, .slice aw nw cw, .slice ab nb cb, .slice sa ns sc] 35)).alloc (.cells #[.slice xa lx xc, .slice ya ly yc] 30)).alloc (.cells #[.slice none 0 0, .slice none 0 0] 30) := ⟨_, rfl⟩
  have BW : Below w.heap.size w W := by rw [hW]; exact (((Below.refl _ _).alloc (Nat.le_refl _) _).alloc (by simp) _).alloc (by simp; omega) _
  have hWs : W.heap.size = w.heap.size + 3 := by rw [hW]; simp
  have FH : Four W w.heap.size (.slice ao lo co) (.slice aw nw cw) (.slice ab nb cb) (.slice sa ns sc) := by
    have f := Four.new w (.slice ao lo co) (.slice aw nw cw) (.slice ab nb cb) (.slice sa ns sc)
    have f2 := f.later ((Below.refl _ _).alloc (Nat.le_refl _) (.cells #[.slice xa lx xc, .slice ya ly yc] 30))
    have f3 := f2.later ((Below.refl _ _).alloc (Nat.le_refl _) (.cells #[.slice none 0 0, .slice none 0 0] 30))
    rw [hW]; exact f3
  have FP : Two W (w.heap.size + 1) (.slice xa lx xc) (.slice ya ly yc) := by
    have f := Two.new (w.alloc (.cells #[.slice ao lo co, .slice aw nw cw, .slice ab nb cb, .slice sa ns sc] 35)) (.slice xa lx xc) (.slice ya ly yc)
    have f2 := f.later ((Below.refl _ _).alloc (Nat.le_refl _) (.cells #[.slice none 0 0, .slice none 0 0] 30)) (by simp)
    rw [← hW] at f2
    simpa using f2
  have FR : Two W (w.heap.size + 2) (.slice none 0 0) (.slice none 0 0) := by
    have f := Two.new ((w.alloc (.cells #[.slice ao lo co, .slice aw nw cw, .slice ab nb cb, .slice sa ns sc] 35)).alloc (.cells #[.slice xa lx xc, .slice ya ly yc] 30)) (.slice none 0 0) (.slice none 0 0)
    rw [← hW] at f
    simpa using f
  have HG1 : Hid (w.heap.size + 1 < W.heap.size) := by show _ < _; omega
  have HGR : Hid (w.heap.size + 2 < W.heap.size) := by show _ < _; omega
  by_cases h0 : lo = 8
  · subst h0
    by_cases h1 : lx = 8
    · subst h1
      by_cases h2 : ly = 8
      · subst h2
        have hnl : NoLive H slot := by
          by_cases a1 : slot < 0
          · exact .inl a1
          by_cases a2 : 8 ≤ slot
          · exact .inr (.inl a2)
          refine .inr (.inr fun o ho => ?_)
          cases hv : o.live with
          | false => rfl
          | true => exact absurd ⟨HLO.out, HLX.out, HLY.out, by omega, by omega, o, ho, hv⟩ hno
        have CL : Hid (∀ X, Below w.heap.size w X → _) := fun X hX => liveIn_no _ H slot X (HRH.out X hX) (by rw [HLO.out]; omega) hnl
        have BWb0 := BW
        have FPb0 := FP
        have FRb0 := FR
        have HWs : Hid (W.heap.size = w.heap.size + 3) := hWs
        clear HRH hno FH hWs hnl
        go_enter Try.func60, Try.ntmps60
        go_wp2_with fail
        rw [← hW]
        clear hW
        refine (CL.out _ BW).mono ?_
        rintro e Wb ⟨rfl, bb⟩
        have BWb := BW.trans (bb.mono BW.size)
        have FPb := FP.later bb HG1.out
        have FRb := FR.later bb HGR.out
        have hbs := bb.size
        have HG1b : Hid (w.heap.size + 1 < Wb.heap.size) := Nat.lt_of_lt_of_le HG1.out hbs
        have HGRb : Hid (w.heap.size + 2 < Wb.heap.size) := Nat.lt_of_lt_of_le HGR.out hbs
        clear HG1 HGR
        have HG1 : Hid (w.heap.size + 1 < Wb.heap.size) := HG1b
        have HGR : Hid (w.heap.size + 2 < Wb.heap.size) := HGRb
        clear HG1b HGRb BW FP FR BWb0 FPb0 FRb0 CL bb
        go_wp2
        have HBW : Hid (Below w.heap.size w Wb) := BWb
        have HFP : Hid (∀ X, Below Wb.heap.size Wb X → Two X (w.heap.size + 1) (.slice xa 8 xc) (.slice ya 8 yc)) := fun X hX => FPb.later hX HG1.out
        have HRES : Hid (Two Wb (w.heap.size + 2) (.slice none 0 0) (.slice none 0 0)) := FRb
        have HCXb : Hid (∀ X, Below Wb.heap.size Wb X → _) := fun X hX => HCX.out X (HBW.out.trans (hX.mono HBW.out.size))
        have HCYb : Hid (∀ X, Below Wb.heap.size Wb X → _) := fun X hX => HCY.out X (HBW.out.trans (hX.mono HBW.out.size))
        clear BWb FPb FRb
        refine wp_region_pair 7 (by kernel_rfl) (by kernel_rfl) (RU Wb.heap.size (.pointer (some ⟨w.heap.size + 1, 0, none⟩)) (.slice xa 8 xc) (.pointer (some ⟨w.heap.size + 1, 1, none⟩)) (.slice ya 8 yc) T.counts T.colors) DU ru_mono ?_ ?_
        · intro i o hi ho a X hX hA dn hbn hdep
          have hXs := hX.size
          match i, hi, ho with
          | 0, _, ho =>
            obtain rfl := Option.some.inj ho
            exact opFieldT 0 (by omega) (alike_at hA (t := 5) (by kernel_rfl)) ⟨_, rfl, Below.refl _ _, rfl, fun j hj _ t ht => du_no rfl⟩
          | 1, _, ho =>
            obtain rfl := Option.some.inj ho
            have e1 : a.eval (.tmp 32) = (.pointer (some ⟨w.heap.size + 1, 0, none⟩)) := hbn.yields 0 (hdep ⟨0, .data⟩ (by simp) rfl) 32 rfl
            exact opLoadI e1 ((HFP.out X hX).cell 0) ⟨_, rfl, Below.refl _ _, rfl, fun j hj _ t ht => du_no rfl⟩
          | 2, _, ho =>
            obtain rfl := Option.some.inj ho
            have e1 : a.eval (.tmp 33) = (.slice xa 8 xc) := hbn.yields 1 (hdep ⟨1, .data⟩ (by simp) rfl) 33 rfl
            refine opCloneI e1 (HCXb.out X hX) ?_
            rintro e w' ⟨x, rfl, hx, hb⟩
            exact ⟨x, rfl, ⟨_, rfl, hb, ownI_mono hx hXs, fun j hj _ t ht => du_new (hbn.yields j hj t ht) hx⟩⟩
          | 3, _, ho =>
            obtain rfl := Option.some.inj ho
            exact opFieldT 1 (by omega) (alike_at hA (t := 5) (by kernel_rfl)) ⟨_, rfl, Below.refl _ _, rfl, fun j hj _ t ht => du_no rfl⟩
          | 4, _, ho =>
            obtain rfl := Option.some.inj ho
            have e1 : a.eval (.tmp 35) = (.pointer (some ⟨w.heap.size + 1, 1, none⟩)) := hbn.yields 3 (hdep ⟨3, .data⟩ (by simp) rfl) 35 rfl
            exact opLoadI e1 ((HFP.out X hX).cell 1) ⟨_, rfl, Below.refl _ _, rfl, fun j hj _ t ht => du_no rfl⟩
          | 5, _, ho =>
            obtain rfl := Option.some.inj ho
            have e1 : a.eval (.tmp 36) = (.slice ya 8 yc) := hbn.yields 4 (hdep ⟨4, .data⟩ (by simp) rfl) 36 rfl
            refine opCloneI e1 (HCYb.out X hX) ?_
            rintro e w' ⟨x, rfl, hx, hb⟩
            exact ⟨x, rfl, ⟨_, rfl, hb, ownI_mono hx hXs, fun j hj _ t ht => du_new (hbn.yields j hj t ht) hx⟩⟩
          | 6, _, ho =>
            obtain rfl := Option.some.inj ho
            have d2 := hdep ⟨2, .data⟩ (by simp) rfl
            have d5 := hdep ⟨5, .data⟩ (by simp) rfl
            have q1 : ownI X Wb.heap.size (a.eval (.tmp 34)) T.counts := hbn.yields 2 d2 34 rfl
            have q2 : ownI X Wb.heap.size (a.eval (.tmp 37)) T.colors := hbn.yields 5 d5 37 rfl
            have q3 : Dif2 (a.eval (.tmp 34)) (a.eval (.tmp 37)) := hbn.pairs 2 5 d2 d5 (by decide) 34 37 rfl rfl (by decide) (by decide) (by decide)
            obtain ⟨x1, c1, e1, -⟩ := rdI_own q1
            obtain ⟨x2, c2, e2, -⟩ := rdI_own q2
            rw [e1] at q1 q3
            rw [e2] at q2 q3
            exact opBuild2 e1 e2 ⟨_, rfl, Below.refl _ _, ⟨x1, c1, x2, c2, rfl, q1, q2, q3⟩, fun j hj _ t ht => du_no rfl⟩
        · intro o ho a X hX hA dn hbn hdn
          obtain rfl := Option.some.inj ho
          obtain ⟨x1, c1, x2, c2, e2, q1, q2, q3⟩ := hbn.yields 6 (hdn 6 (by omega)) 38 rfl
          have e1 : a.eval (.tmp 8) = .pointer (some ⟨w.heap.size + 2, 0, none⟩) := alike_at hA (t := 8) (by kernel_rfl)
          have hf : Two X (w.heap.size + 2) (.slice none 0 0) (.slice none 0 0) := HRES.out.later hX (HGR.out)
          refine opStoreT e1 e2 hf ?_
          obtain ⟨us, hus, rfl⟩ := alike_tmps hA [32, 33, 34, 35, 36, 37, 38] (by kernel_rfl)
          obtain ⟨k0, k1⟩ := setTwo_cell (.slice x1 (T.counts).length c1) (.slice x2 (T.colors).length c2) hf
          have HT : Hid (TM (setTwo X (w.heap.size + 2) (.slice x1 (T.counts).length c1) (.slice x2 (T.colors).length c2)) w.heap.size ⟨x1, (T.counts).length, c1, x2, (T.colors).length, c2⟩ ⟨T.counts, T.colors⟩) := by
            have ne : ∀ {v : Value} {zs : List Int}, ownI X Wb.heap.size v zs → ownI (setTwo X (w.heap.size + 2) (.slice x1 (T.counts).length c1) (.slice x2 (T.colors).length c2)) w.heap.size v zs := fun hr => ownI_mono (ownI_same hr (fun i hi => setTwo_other _ _ _ _ i (by have := (ownI_lt hr i hi).1; have := HGR.out; omega))) (Nat.le_trans HBW.out.size (Nat.le_refl _))
            exact ⟨ne q1, ne q2, q3⟩
          have HB : Hid (Below w.heap.size w (setTwo X (w.heap.size + 2) (.slice x1 (T.counts).length c1) (.slice x2 (T.colors).length c2))) := by
            unfold setTwo
            exact ((HBW.out.trans (hX.mono HBW.out.size)).setCell (by simp) _).setCell (by simp) _
          clear hbn hdn hA hus e1 e2 hf q1 q2 q3 ho
          generalize setTwo X (w.heap.size + 2) (.slice x1 (T.counts).length c1) (.slice x2 (T.colors).length c2) = Y at *
          simp only [List.mapIdx_cons, List.mapIdx_nil, Nat.reduceAdd, List.contains_cons, List.contains_nil, Nat.reduceBEq, Bool.or_false, Bool.or_true, if_true, if_false, Bool.false_eq_true]
          go_wp2
          exact bodyPost_ret (v := .agg #[.slice x1 (T.counts).length c1, .slice x2 (T.colors).length c2]) (by simp [results, Try.results60, go_sem, *]) rfl ⟨⟨x1, (T.counts).length, c1, x2, (T.colors).length, c2⟩, rfl, HT.out, HB.out⟩
      · have n2 : ¬ (ly : Int) = 8 := by omega
        obtain ⟨Wb, hWb⟩ : ∃ Wb, Wb = W := ⟨_, rfl⟩
        rw [← hWb] at BW FP FR HG1 HGR hW
        have BWb := BW
        have FPb := FP
        have FRb := FR
        clear HRH hno FH hWs
        go_enter Try.func60, Try.ntmps60
        go_wp2
        rw [← hW]
        clear hW hWb BW FP FR
        have HBW : Hid (Below w.heap.size w Wb) := BWb
        have HFP : Hid (∀ X, Below Wb.heap.size Wb X → Two X (w.heap.size + 1) (.slice xa 8 xc) (.slice ya ly yc)) := fun X hX => FPb.later hX HG1.out
        have HRES : Hid (Two Wb (w.heap.size + 2) (.slice none 0 0) (.slice none 0 0)) := FRb
        have HCXb : Hid (∀ X, Below Wb.heap.size Wb X → _) := fun X hX => HCX.out X (HBW.out.trans (hX.mono HBW.out.size))
        have HCYb : Hid (∀ X, Below Wb.heap.size Wb X → _) := fun X hX => HCY.out X (HBW.out.trans (hX.mono HBW.out.size))
        clear BWb FPb FRb
        refine wp_region_pair 7 (by kernel_rfl) (by kernel_rfl) (RU Wb.heap.size (.pointer (some ⟨w.heap.size + 1, 0, none⟩)) (.slice xa 8 xc) (.pointer (some ⟨w.heap.size + 1, 1, none⟩)) (.slice ya ly yc) T.counts T.colors) DU ru_mono ?_ ?_
        · intro i o hi ho a X hX hA dn hbn hdep
          have hXs := hX.size
          match i, hi, ho with
          | 0, _, ho =>
            obtain rfl := Option.some.inj ho
            exact opFieldT 0 (by omega) (alike_at hA (t := 5) (by kernel_rfl)) ⟨_, rfl, Below.refl _ _, rfl, fun j hj _ t ht => du_no rfl⟩
          | 1, _, ho =>
            obtain rfl := Option.some.inj ho
            have e1 : a.eval (.tmp 32) = (.pointer (some ⟨w.heap.size + 1, 0, none⟩)) := hbn.yields 0 (hdep ⟨0, .data⟩ (by simp) rfl) 32 rfl
            exact opLoadI e1 ((HFP.out X hX).cell 0) ⟨_, rfl, Below.refl _ _, rfl, fun j hj _ t ht => du_no rfl⟩
          | 2, _, ho =>
            obtain rfl := Option.some.inj ho
            have e1 : a.eval (.tmp 33) = (.slice xa 8 xc) := hbn.yields 1 (hdep ⟨1, .data⟩ (by simp) rfl) 33 rfl
            refine opCloneI e1 (HCXb.out X hX) ?_
            rintro e w' ⟨x, rfl, hx, hb⟩
            exact ⟨x, rfl, ⟨_, rfl, hb, ownI_mono hx hXs, fun j hj _ t ht => du_new (hbn.yields j hj t ht) hx⟩⟩
          | 3, _, ho =>
            obtain rfl := Option.some.inj ho
            exact opFieldT 1 (by omega) (alike_at hA (t := 5) (by kernel_rfl)) ⟨_, rfl, Below.refl _ _, rfl, fun j hj _ t ht => du_no rfl⟩
          | 4, _, ho =>
            obtain rfl := Option.some.inj ho
            have e1 : a.eval (.tmp 35) = (.pointer (some ⟨w.heap.size + 1, 1, none⟩)) := hbn.yields 3 (hdep ⟨3, .data⟩ (by simp) rfl) 35 rfl
            exact opLoadI e1 ((HFP.out X hX).cell 1) ⟨_, rfl, Below.refl _ _, rfl, fun j hj _ t ht => du_no rfl⟩
          | 5, _, ho =>
            obtain rfl := Option.some.inj ho
            have e1 : a.eval (.tmp 36) = (.slice ya ly yc) := hbn.yields 4 (hdep ⟨4, .data⟩ (by simp) rfl) 36 rfl
            refine opCloneI e1 (HCYb.out X hX) ?_
            rintro e w' ⟨x, rfl, hx, hb⟩
            exact ⟨x, rfl, ⟨_, rfl, hb, ownI_mono hx hXs, fun j hj _ t ht => du_new (hbn.yields j hj t ht) hx⟩⟩
          | 6, _, ho =>
            obtain rfl := Option.some.inj ho
            have d2 := hdep ⟨2, .data⟩ (by simp) rfl
            have d5 := hdep ⟨5, .data⟩ (by simp) rfl
            have q1 : ownI X Wb.heap.size (a.eval (.tmp 34)) T.counts := hbn.yields 2 d2 34 rfl
            have q2 : ownI X Wb.heap.size (a.eval (.tmp 37)) T.colors := hbn.yields 5 d5 37 rfl
            have q3 : Dif2 (a.eval (.tmp 34)) (a.eval (.tmp 37)) := hbn.pairs 2 5 d2 d5 (by decide) 34 37 rfl rfl (by decide) (by decide) (by decide)
            obtain ⟨x1, c1, e1, -⟩ := rdI_own q1
            obtain ⟨x2, c2, e2, -⟩ := rdI_own q2
            rw [e1] at q1 q3
            rw [e2] at q2 q3
            exact opBuild2 e1 e2 ⟨_, rfl, Below.refl _ _, ⟨x1, c1, x2, c2, rfl, q1, q2, q3⟩, fun j hj _ t ht => du_no rfl⟩
        · intro o ho a X hX hA dn hbn hdn
          obtain rfl := Option.some.inj ho
          obtain ⟨x1, c1, x2, c2, e2, q1, q2, q3⟩ := hbn.yields 6 (hdn 6 (by omega)) 38 rfl
          have e1 : a.eval (.tmp 8) = .pointer (some ⟨w.heap.size + 2, 0, none⟩) := alike_at hA (t := 8) (by kernel_rfl)
          have hf : Two X (w.heap.size + 2) (.slice none 0 0) (.slice none 0 0) := HRES.out.later hX (HGR.out)
          refine opStoreT e1 e2 hf ?_
          obtain ⟨us, hus, rfl⟩ := alike_tmps hA [32, 33, 34, 35, 36, 37, 38] (by kernel_rfl)
          obtain ⟨k0, k1⟩ := setTwo_cell (.slice x1 (T.counts).length c1) (.slice x2 (T.colors).length c2) hf
          have HT : Hid (TM (setTwo X (w.heap.size + 2) (.slice x1 (T.counts).length c1) (.slice x2 (T.colors).length c2)) w.heap.size ⟨x1, (T.counts).length, c1, x2, (T.colors).length, c2⟩ ⟨T.counts, T.colors⟩) := by
            have ne : ∀ {v : Value} {zs : List Int}, ownI X Wb.heap.size v zs → ownI (setTwo X (w.heap.size + 2) (.slice x1 (T.counts).length c1) (.slice x2 (T.colors).length c2)) w.heap.size v zs := fun hr => ownI_mono (ownI_same hr (fun i hi => setTwo_other _ _ _ _ i (by have := (ownI_lt hr i hi).1; have := HGR.out; omega))) (Nat.le_trans HBW.out.size (Nat.le_refl _))
            exact ⟨ne q1, ne q2, q3⟩
          have HB : Hid (Below w.heap.size w (setTwo X (w.heap.size + 2) (.slice x1 (T.counts).length c1) (.slice x2 (T.colors).length c2))) := by
            unfold setTwo
            exact ((HBW.out.trans (hX.mono HBW.out.size)).setCell (by simp) _).setCell (by simp) _
          clear hbn hdn hA hus e1 e2 hf q1 q2 q3 ho
          generalize setTwo X (w.heap.size + 2) (.slice x1 (T.counts).length c1) (.slice x2 (T.colors).length c2) = Y at *
          simp only [List.mapIdx_cons, List.mapIdx_nil, Nat.reduceAdd, List.contains_cons, List.contains_nil, Nat.reduceBEq, Bool.or_false, Bool.or_true, if_true, if_false, Bool.false_eq_true]
          go_wp2
          exact bodyPost_ret (v := .agg #[.slice x1 (T.counts).length c1, .slice x2 (T.colors).length c2]) (by simp [results, Try.results60, go_sem, *]) rfl ⟨⟨x1, (T.counts).length, c1, x2, (T.colors).length, c2⟩, rfl, HT.out, HB.out⟩
    · have n1 : ¬ (lx : Int) = 8 := by omega
      obtain ⟨Wb, hWb⟩ : ∃ Wb, Wb = W := ⟨_, rfl⟩
      rw [← hWb] at BW FP FR HG1 HGR hW
      have BWb := BW
      have FPb := FP
      have FRb := FR
      clear HRH hno FH hWs
      go_enter Try.func60, Try.ntmps60
      go_wp2
      rw [← hW]
      clear hW hWb BW FP FR
      have HBW : Hid (Below w.heap.size w Wb) := BWb
      have HFP : Hid (∀ X, Below Wb.heap.size Wb X → Two X (w.heap.size + 1) (.slice xa lx xc) (.slice ya ly yc)) := fun X hX => FPb.later hX HG1.out
      have HRES : Hid (Two Wb (w.heap.size + 2) (.slice none 0 0) (.slice none 0 0)) := FRb
      have HCXb : Hid (∀ X, Below Wb.heap.size Wb X → _) := fun X hX => HCX.out X (HBW.out.trans (hX.mono HBW.out.size))
      have HCYb : Hid (∀ X, Below Wb.heap.size Wb X → _) := fun X hX => HCY.out X (HBW.out.trans (hX.mono HBW.out.size))
      clear BWb FPb FRb
      refine wp_region_pair 7 (by kernel_rfl) (by kernel_rfl) (RU Wb.heap.size (.pointer (some ⟨w.heap.size + 1, 0, none⟩)) (.slice xa lx xc) (.pointer (some ⟨w.heap.size + 1, 1, none⟩)) (.slice ya ly yc) T.counts T.colors) DU ru_mono ?_ ?_
      · intro i o hi ho a X hX hA dn hbn hdep
        have hXs := hX.size
        match i, hi, ho with
        | 0, _, ho =>
          obtain rfl := Option.some.inj ho
          exact opFieldT 0 (by omega) (alike_at hA (t := 5) (by kernel_rfl)) ⟨_, rfl, Below.refl _ _, rfl, fun j hj _ t ht => du_no rfl⟩
        | 1, _, ho =>
          obtain rfl := Option.some.inj ho
          have e1 : a.eval (.tmp 32) = (.pointer (some ⟨w.heap.size + 1, 0, none⟩)) := hbn.yields 0 (hdep ⟨0, .data⟩ (by simp) rfl) 32 rfl
          exact opLoadI e1 ((HFP.out X hX).cell 0) ⟨_, rfl, Below.refl _ _, rfl, fun j hj _ t ht => du_no rfl⟩
        | 2, _, ho =>
          obtain rfl := Option.some.inj ho
          have e1 : a.eval (.tmp 33) = (.slice xa lx xc) := hbn.yields 1 (hdep ⟨1, .data⟩ (by simp) rfl) 33 rfl
          refine opCloneI e1 (HCXb.out X hX) ?_
          rintro e w' ⟨x, rfl, hx, hb⟩
          exact ⟨x, rfl, ⟨_, rfl, hb, ownI_mono hx hXs, fun j hj _ t ht => du_new (hbn.yields j hj t ht) hx⟩⟩
        | 3, _, ho =>
          obtain rfl := Option.some.inj ho
          exact opFieldT 1 (by omega) (alike_at hA (t := 5) (by kernel_rfl)) ⟨_, rfl, Below.refl _ _, rfl, fun j hj _ t ht => du_no rfl⟩
        | 4, _, ho =>
          obtain rfl := Option.some.inj ho
          have e1 : a.eval (.tmp 35) = (.pointer (some ⟨w.heap.size + 1, 1, none⟩)) := hbn.yields 3 (hdep ⟨3, .data⟩ (by simp) rfl) 35 rfl
          exact opLoadI e1 ((HFP.out X hX).cell 1) ⟨_, rfl, Below.refl _ _, rfl, fun j hj _ t ht => du_no rfl⟩
        | 5, _, ho =>
          obtain rfl := Option.some.inj ho
          have e1 : a.eval (.tmp 36) = (.slice ya ly yc) := hbn.yields 4 (hdep ⟨4, .data⟩ (by simp) rfl) 36 rfl
          refine opCloneI e1 (HCYb.out X hX) ?_
          rintro e w' ⟨x, rfl, hx, hb⟩
          exact ⟨x, rfl, ⟨_, rfl, hb, ownI_mono hx hXs, fun j hj _ t ht => du_new (hbn.yields j hj t ht) hx⟩⟩
        | 6, _, ho =>
          obtain rfl := Option.some.inj ho
          have d2 := hdep ⟨2, .data⟩ (by simp) rfl
          have d5 := hdep ⟨5, .data⟩ (by simp) rfl
          have q1 : ownI X Wb.heap.size (a.eval (.tmp 34)) T.counts := hbn.yields 2 d2 34 rfl
          have q2 : ownI X Wb.heap.size (a.eval (.tmp 37)) T.colors := hbn.yields 5 d5 37 rfl
          have q3 : Dif2 (a.eval (.tmp 34)) (a.eval (.tmp 37)) := hbn.pairs 2 5 d2 d5 (by decide) 34 37 rfl rfl (by decide) (by decide) (by decide)
          obtain ⟨x1, c1, e1, -⟩ := rdI_own q1
          obtain ⟨x2, c2, e2, -⟩ := rdI_own q2
          rw [e1] at q1 q3
          rw [e2] at q2 q3
          exact opBuild2 e1 e2 ⟨_, rfl, Below.refl _ _, ⟨x1, c1, x2, c2, rfl, q1, q2, q3⟩, fun j hj _ t ht => du_no rfl⟩
      · intro o ho a X hX hA dn hbn hdn
        obtain rfl := Option.some.inj ho
        obtain ⟨x1, c1, x2, c2, e2, q1, q2, q3⟩ := hbn.yields 6 (hdn 6 (by omega)) 38 rfl
        have e1 : a.eval (.tmp 8) = .pointer (some ⟨w.heap.size + 2, 0, none⟩) := alike_at hA (t := 8) (by kernel_rfl)
        have hf : Two X (w.heap.size + 2) (.slice none 0 0) (.slice none 0 0) := HRES.out.later hX (HGR.out)
        refine opStoreT e1 e2 hf ?_
        obtain ⟨us, hus, rfl⟩ := alike_tmps hA [32, 33, 34, 35, 36, 37, 38] (by kernel_rfl)
        obtain ⟨k0, k1⟩ := setTwo_cell (.slice x1 (T.counts).length c1) (.slice x2 (T.colors).length c2) hf
        have HT : Hid (TM (setTwo X (w.heap.size + 2) (.slice x1 (T.counts).length c1) (.slice x2 (T.colors).length c2)) w.heap.size ⟨x1, (T.counts).length, c1, x2, (T.colors).length, c2⟩ ⟨T.counts, T.colors⟩) := by
          have ne : ∀ {v : Value} {zs : List Int}, ownI X Wb.heap.size v zs → ownI (setTwo X (w.heap.size + 2) (.slice x1 (T.counts).length c1) (.slice x2 (T.colors).length c2)) w.heap.size v zs := fun hr => ownI_mono (ownI_same hr (fun i hi => setTwo_other _ _ _ _ i (by have := (ownI_lt hr i hi).1; have := HGR.out; omega))) (Nat.le_trans HBW.out.size (Nat.le_refl _))
          exact ⟨ne q1, ne q2, q3⟩
        have HB : Hid (Below w.heap.size w (setTwo X (w.heap.size + 2) (.slice x1 (T.counts).length c1) (.slice x2 (T.colors).length c2))) := by
          unfold setTwo
          exact ((HBW.out.trans (hX.mono HBW.out.size)).setCell (by simp) _).setCell (by simp) _
        clear hbn hdn hA hus e1 e2 hf q1 q2 q3 ho
        generalize setTwo X (w.heap.size + 2) (.slice x1 (T.counts).length c1) (.slice x2 (T.colors).length c2) = Y at *
        simp only [List.mapIdx_cons, List.mapIdx_nil, Nat.reduceAdd, List.contains_cons, List.contains_nil, Nat.reduceBEq, Bool.or_false, Bool.or_true, if_true, if_false, Bool.false_eq_true]
        go_wp2
        exact bodyPost_ret (v := .agg #[.slice x1 (T.counts).length c1, .slice x2 (T.colors).length c2]) (by simp [results, Try.results60, go_sem, *]) rfl ⟨⟨x1, (T.counts).length, c1, x2, (T.colors).length, c2⟩, rfl, HT.out, HB.out⟩
  · have n0 : ¬ (lo : Int) = 8 := by omega
    obtain ⟨Wb, hWb⟩ : ∃ Wb, Wb = W := ⟨_, rfl⟩
    rw [← hWb] at BW FP FR HG1 HGR hW
    have BWb := BW
    have FPb := FP
    have FRb := FR
    clear HRH hno FH hWs
    go_enter Try.func60, Try.ntmps60
    go_wp2
    rw [← hW]
    clear hW hWb BW FP FR
    have HBW : Hid (Below w.heap.size w Wb) := BWb
    have HFP : Hid (∀ X, Below Wb.heap.size Wb X → Two X (w.heap.size + 1) (.slice xa lx xc) (.slice ya ly yc)) := fun X hX => FPb.later hX HG1.out
    have HRES : Hid (Two Wb (w.heap.size + 2) (.slice none 0 0) (.slice none 0 0)) := FRb
    have HCXb : Hid (∀ X, Below Wb.heap.size Wb X → _) := fun X hX => HCX.out X (HBW.out.trans (hX.mono HBW.out.size))
    have HCYb : Hid (∀ X, Below Wb.heap.size Wb X → _) := fun X hX => HCY.out X (HBW.out.trans (hX.mono HBW.out.size))
    clear BWb FPb FRb
    refine wp_region_pair 7 (by kernel_rfl) (by kernel_rfl) (RU Wb.heap.size (.pointer (some ⟨w.heap.size + 1, 0, none⟩)) (.slice xa lx xc) (.pointer (some ⟨w.heap.size + 1, 1, none⟩)) (.slice ya ly yc) T.counts T.colors) DU ru_mono ?_ ?_
    · intro i o hi ho a X hX hA dn hbn hdep
      have hXs := hX.size
      match i, hi, ho with
      | 0, _, ho =>
        obtain rfl := Option.some.inj ho
        exact opFieldT 0 (by omega) (alike_at hA (t := 5) (by kernel_rfl)) ⟨_, rfl, Below.refl _ _, rfl, fun j hj _ t ht => du_no rfl⟩
      | 1, _, ho =>
        obtain rfl := Option.some.inj ho
        have e1 : a.eval (.tmp 32) = (.pointer (some ⟨w.heap.size + 1, 0, none⟩)) := hbn.yields 0 (hdep ⟨0, .data⟩ (by simp) rfl) 32 rfl
        exact opLoadI e1 ((HFP.out X hX).cell 0) ⟨_, rfl, Below.refl _ _, rfl, fun j hj _ t ht => du_no rfl⟩
      | 2, _, ho =>
        obtain rfl := Option.some.inj ho
        have e1 : a.eval (.tmp 33) = (.slice xa lx xc) := hbn.yields 1 (hdep ⟨1, .data⟩ (by simp) rfl) 33 rfl
        refine opCloneI e1 (HCXb.out X hX) ?_
        rintro e w' ⟨x, rfl, hx, hb⟩
        exact ⟨x, rfl, ⟨_, rfl, hb, ownI_mono hx hXs, fun j hj _ t ht => du_new (hbn.yields j hj t ht) hx⟩⟩
      | 3, _, ho =>
        obtain rfl := Option.some.inj ho
        exact opFieldT 1 (by omega) (alike_at hA (t := 5) (by kernel_rfl)) ⟨_, rfl, Below.refl _ _, rfl, fun j hj _ t ht => du_no rfl⟩
      | 4, _, ho =>
        obtain rfl := Option.some.inj ho
        have e1 : a.eval (.tmp 35) = (.pointer (some ⟨w.heap.size + 1, 1, none⟩)) := hbn.yields 3 (hdep ⟨3, .data⟩ (by simp) rfl) 35 rfl
        exact opLoadI e1 ((HFP.out X hX).cell 1) ⟨_, rfl, Below.refl _ _, rfl, fun j hj _ t ht => du_no rfl⟩
      | 5, _, ho =>
        obtain rfl := Option.some.inj ho
        have e1 : a.eval (.tmp 36) = (.slice ya ly yc) := hbn.yields 4 (hdep ⟨4, .data⟩ (by simp) rfl) 36 rfl
        refine opCloneI e1 (HCYb.out X hX) ?_
        rintro e w' ⟨x, rfl, hx, hb⟩
        exact ⟨x, rfl, ⟨_, rfl, hb, ownI_mono hx hXs, fun j hj _ t ht => du_new (hbn.yields j hj t ht) hx⟩⟩
      | 6, _, ho =>
        obtain rfl := Option.some.inj ho
        have d2 := hdep ⟨2, .data⟩ (by simp) rfl
        have d5 := hdep ⟨5, .data⟩ (by simp) rfl
        have q1 : ownI X Wb.heap.size (a.eval (.tmp 34)) T.counts := hbn.yields 2 d2 34 rfl
        have q2 : ownI X Wb.heap.size (a.eval (.tmp 37)) T.colors := hbn.yields 5 d5 37 rfl
        have q3 : Dif2 (a.eval (.tmp 34)) (a.eval (.tmp 37)) := hbn.pairs 2 5 d2 d5 (by decide) 34 37 rfl rfl (by decide) (by decide) (by decide)
        obtain ⟨x1, c1, e1, -⟩ := rdI_own q1
        obtain ⟨x2, c2, e2, -⟩ := rdI_own q2
        rw [e1] at q1 q3
        rw [e2] at q2 q3
        exact opBuild2 e1 e2 ⟨_, rfl, Below.refl _ _, ⟨x1, c1, x2, c2, rfl, q1, q2, q3⟩, fun j hj _ t ht => du_no rfl⟩
    · intro o ho a X hX hA dn hbn hdn
      obtain rfl := Option.some.inj ho
      obtain ⟨x1, c1, x2, c2, e2, q1, q2, q3⟩ := hbn.yields 6 (hdn 6 (by omega)) 38 rfl
      have e1 : a.eval (.tmp 8) = .pointer (some ⟨w.heap.size + 2, 0, none⟩) := alike_at hA (t := 8) (by kernel_rfl)
      have hf : Two X (w.heap.size + 2) (.slice none 0 0) (.slice none 0 0) := HRES.out.later hX (HGR.out)
      refine opStoreT e1 e2 hf ?_
      obtain ⟨us, hus, rfl⟩ := alike_tmps hA [32, 33, 34, 35, 36, 37, 38] (by kernel_rfl)
      obtain ⟨k0, k1⟩ := setTwo_cell (.slice x1 (T.counts).length c1) (.slice x2 (T.colors).length c2) hf
      have HT : Hid (TM (setTwo X (w.heap.size + 2) (.slice x1 (T.counts).length c1) (.slice x2 (T.colors).length c2)) w.heap.size ⟨x1, (T.counts).length, c1, x2, (T.colors).length, c2⟩ ⟨T.counts, T.colors⟩) := by
        have ne : ∀ {v : Value} {zs : List Int}, ownI X Wb.heap.size v zs → ownI (setTwo X (w.heap.size + 2) (.slice x1 (T.counts).length c1) (.slice x2 (T.colors).length c2)) w.heap.size v zs := fun hr => ownI_mono (ownI_same hr (fun i hi => setTwo_other _ _ _ _ i (by have := (ownI_lt hr i hi).1; have := HGR.out; omega))) (Nat.le_trans HBW.out.size (Nat.le_refl _))
        exact ⟨ne q1, ne q2, q3⟩
      have HB : Hid (Below w.heap.size w (setTwo X (w.heap.size + 2) (.slice x1 (T.counts).length c1) (.slice x2 (T.colors).length c2))) := by
        unfold setTwo
        exact ((HBW.out.trans (hX.mono HBW.out.size)).setCell (by simp) _).setCell (by simp) _
      clear hbn hdn hA hus e1 e2 hf q1 q2 q3 ho
      generalize setTwo X (w.heap.size + 2) (.slice x1 (T.counts).length c1) (.slice x2 (T.colors).length c2) = Y at *
      simp only [List.mapIdx_cons, List.mapIdx_nil, Nat.reduceAdd, List.contains_cons, List.contains_nil, Nat.reduceBEq, Bool.or_false, Bool.or_true, if_true, if_false, Bool.false_eq_true]
      go_wp2
      exact bodyPost_ret (v := .agg #[.slice x1 (T.counts).length c1, .slice x2 (T.colors).length c2]) (by simp [results, Try.results60, go_sem, *]) rfl ⟨⟨x1, (T.counts).length, c1, x2, (T.colors).length, c2⟩, rfl, HT.out, HB.out⟩

/-- What each operation of the try yields. -/
def RY (B : Nat) (fv p1 s1 q1 g1 p2 s2 q2 g2 u v z r : Value) : Nat → World → Value → Prop
  | 0, _, x => x = fv
  | 1, _, x => x = p1
  | 2, _, x => x = s1
  | 3, _, x => x = q1
  | 4, _, x => x = g1
  | 5, _, x => x = p2
  | 6, _, x => x = s2
  | 7, _, x => x = q2
  | 8, _, x => x = g2
  | 9, _, x => x = u
  | 10, _, x => x = v
  | 11, _, x => x = z
  | 12, _, x => x = r
  | 13, X, x => ∃ g, x = .pointer (some ⟨g, 0, none⟩) ∧ B ≤ g ∧ Arr X g (trD 0 0 0 0 0 0 0 0 0 0 0 0 0 0 0 0)
  | _, _, _ => True
theorem ry_mono {B : Nat} {fv p1 s1 q1 g1 p2 s2 q2 g2 u v z r : Value} (i : Nat) (X Y : World) (x : Value) (h : RY B fv p1 s1 q1 g1 p2 s2 q2 g2 u v z r i X x) (hb : Below X.heap.size X Y) : RY B fv p1 s1 q1 g1 p2 s2 q2 g2 u v z r i Y x := by
  match i, h with
  | 0, h => exact h
  | 1, h => exact h
  | 2, h => exact h
  | 3, h => exact h
  | 4, h => exact h
  | 5, h => exact h
  | 6, h => exact h
  | 7, h => exact h
  | 8, h => exact h
  | 9, h => exact h
  | 10, h => exact h
  | 11, h => exact h
  | 12, h => exact h
  | 13, ⟨g, h1, h2, h3⟩ => exact ⟨g, h1, h2, h3.later hb⟩
  | n + 14, _ => exact trivial

set_option maxHeartbeats 16000000 in
theorem iTried_yes (v u : Value) (F : Nat) (hop : TryOp F) (H : HeapD) (T R : TrialD) (s : Nat) (w : World) (h : RdH w v H) (ht : RdT w u T) (hs : SmallH H) (hst : SmallT T) (hok : OkT H T (s : Int)) (hR : Eight R)
    (hC : ∀ X, Below w.heap.size w X → Calls Try.prog F #[arrV T, v, .int .i64 (s : Int)] X fun e w' => e = .returned (arrV R) ∧ Below X.heap.size X w') :
    Calls Try.prog 60 #[v, u, .int .i64 (s : Int), .func (.func F) #[] #[]] w fun e w' => ∃ s : TSh, e = .returned s.v ∧ TM w' w.heap.size s R ∧ Below w.heap.size w w' := by
  have HRH : Hid (∀ X, Below w.heap.size w X → RdH X v H) := fun X hX => rdH_later h hX
  have hl8 : s < H.objs.length := by have := hok.objs; have := hok.hi; omega
  have hlv : H.objs[s].live = true := by
    obtain ⟨o, ho, h2⟩ := hok.live
    rw [show ((s : Int)).toNat = s from by omega, List.getElem?_eq_getElem hl8] at ho
    injection ho with ho
    rw [ho]; exact h2
  obtain ⟨lg, loff, lf, lcap, -, -, -, CL0⟩ := liveIn_yes v H s w h (by have := hs.objs; omega) (by have := hok.hi; omega) hl8 hlv
  have CL : Hid _ := CL0.out
  have HCC : Hid (∀ X, Below w.heap.size w X → _) := hC
  have E8 : Eight T := ⟨hok.counts, hok.colors⟩
  have HR8 : Hid (Eight R) := hR
  have k0 := hok.objs
  have k1 := hok.counts
  have k2 := hok.colors
  obtain ⟨r0, r1, r2, r3, r4, r5, r6, r7, r8, r9, r10, r11, r12, r13, r14, r15, eR⟩ := eight_trD hR
  have HER : Hid (R = trD r0 r1 r2 r3 r4 r5 r6 r7 r8 r9 r10 r11 r12 r13 r14 r15) := eR
  clear hok hC CL0 eR hR
  obtain ⟨ao, co, aw, cw, ab, cb, sa, sc, rfl, -, -, -, -⟩ := h
  obtain ⟨xa, xc, ya, yc, rfl, r1, r2⟩ := ht
  have l0 := hs.objs
  have l1 := hst.counts
  have l2 := hst.colors
  have HRX : Hid (∀ X, Below w.heap.size w X → RdI X xa T.counts) := fun X hX => rdI_later r1 hX
  have HRY : Hid (∀ X, Below w.heap.size w X → RdI X ya T.colors) := fun X hX => rdI_later r2 hX
  generalize H.weaks.length = nw at *
  generalize H.buffer.length = nb at *
  generalize H.sites.length = ns at *
  have HCX : Hid (∀ X, Below w.heap.size w X → _) := fun X hX => clone_calls X xa xc T.counts (rdI_later r1 hX) (by omega)
  have HCY : Hid (∀ X, Below w.heap.size w X → _) := fun X hX => clone_calls X ya yc T.colors (rdI_later r2 hX) (by omega)
  obtain ⟨lo, hlo⟩ : ∃ lo, H.objs.length = lo := ⟨_, rfl⟩
  obtain ⟨lx, hlx⟩ : ∃ lx, T.counts.length = lx := ⟨_, rfl⟩
  obtain ⟨ly, hly⟩ : ∃ ly, T.colors.length = ly := ⟨_, rfl⟩
  have HLO : Hid (H.objs.length = lo) := hlo
  have HLX : Hid (T.counts.length = lx) := hlx
  have HLY : Hid (T.colors.length = ly) := hly
  rw [hlx] at HCX
  rw [hly] at HCY
  rw [hlo, hlx, hly]
  rw [hlo] at l0 HRH
  rw [hlx] at l1
  rw [hly] at l2
  clear hlo hlx hly
  obtain ⟨W, hW⟩ : ∃ W, W = ((w.alloc (.cells #[.slice ao lo co, .slice aw nw cw, .slice ab nb cb, .slice sa ns sc] 35)).alloc (.cells #[.slice xa lx xc, .slice ya ly yc] 30)).alloc (.cells #[.slice none 0 0, .slice none 0 0] 30) := ⟨_, rfl⟩
  have BW : Below w.heap.size w W := by rw [hW]; exact (((Below.refl _ _).alloc (Nat.le_refl _) _).alloc (by simp) _).alloc (by simp; omega) _
  have hWs : W.heap.size = w.heap.size + 3 := by rw [hW]; simp
  have FH : Four W w.heap.size (.slice ao lo co) (.slice aw nw cw) (.slice ab nb cb) (.slice sa ns sc) := by
    have f := Four.new w (.slice ao lo co) (.slice aw nw cw) (.slice ab nb cb) (.slice sa ns sc)
    have f2 := f.later ((Below.refl _ _).alloc (Nat.le_refl _) (.cells #[.slice xa lx xc, .slice ya ly yc] 30))
    have f3 := f2.later ((Below.refl _ _).alloc (Nat.le_refl _) (.cells #[.slice none 0 0, .slice none 0 0] 30))
    rw [hW]; exact f3
  have FP : Two W (w.heap.size + 1) (.slice xa lx xc) (.slice ya ly yc) := by
    have f := Two.new (w.alloc (.cells #[.slice ao lo co, .slice aw nw cw, .slice ab nb cb, .slice sa ns sc] 35)) (.slice xa lx xc) (.slice ya ly yc)
    have f2 := f.later ((Below.refl _ _).alloc (Nat.le_refl _) (.cells #[.slice none 0 0, .slice none 0 0] 30)) (by simp)
    rw [← hW] at f2
    simpa using f2
  have FR : Two W (w.heap.size + 2) (.slice none 0 0) (.slice none 0 0) := by
    have f := Two.new ((w.alloc (.cells #[.slice ao lo co, .slice aw nw cw, .slice ab nb cb, .slice sa ns sc] 35)).alloc (.cells #[.slice xa lx xc, .slice ya ly yc] 30)) (.slice none 0 0) (.slice none 0 0)
    rw [← hW] at f
    simpa using f
  obtain rfl : lo = 8 := by have := HLO.out; omega
  rw [HLO.out] at CL HCC
  obtain rfl : lx = 8 := by have := HLX.out; omega
  obtain rfl : ly = 8 := by have := HLY.out; omega
  obtain ⟨a0, a1, a2, a3, a4, a5, a6, a7, b0, b1, b2, b3, b4, b5, b6, b7, eT⟩ := eight_trD E8
  subst eT
  have HRX0 := HRX.out
  have HRY0 := HRY.out
  obtain ⟨xg, xo, rfl, -, -⟩ := HRX.out w (Below.refl _ _) 0 (by show 0 < 8; omega)
  obtain ⟨yg, yo, rfl, -, -⟩ := HRY.out w (Below.refl _ _) 0 (by show 0 < 8; omega)
  have HG1 : Hid (w.heap.size + 1 < W.heap.size) := by show _ < _; omega
  have HGR0 : Hid (w.heap.size + 2 < W.heap.size) := by show _ < _; omega
  have HGH : Hid (w.heap.size < W.heap.size) := by show _ < _; omega
  clear HCX HCY HRX0 HRY0 r1 r2
  go_enter Try.func60, Try.ntmps60
  go_wp2_with fail
  rw [← hW]
  refine (CL.out _ BW).mono ?_
  rintro e Wa ⟨rfl, bb⟩
  have BWa := BW.trans (bb.mono BW.size)
  have HFH : Hid (∀ X, Below Wa.heap.size Wa X → Four X w.heap.size (.slice ao 8 co) (.slice aw nw cw) (.slice ab nb cb) (.slice sa ns sc)) := fun X hX => (FH.later bb).later hX
  have HFT : Hid (Two Wa (w.heap.size + 1) (.slice (some ⟨xg, xo, none⟩) 8 xc) (.slice (some ⟨yg, yo, none⟩) 8 yc)) := FP.later bb HG1.out
  have HFR : Hid (Two Wa (w.heap.size + 2) (.slice none 0 0) (.slice none 0 0)) := FR.later bb HGR0.out
  have hbs := bb.size
  have HG1a : Hid (w.heap.size + 1 < Wa.heap.size) := Nat.lt_of_lt_of_le HG1.out hbs
  have HGRa : Hid (w.heap.size + 2 < Wa.heap.size) := Nat.lt_of_lt_of_le HGR0.out hbs
  have HBWa : Hid (Below w.heap.size w Wa) := BWa
  clear hW BW FH FP FR BWa bb HG1 HGR0 HGH hbs CL
  go_wp2
  refine wp_region_last 14 (by kernel_rfl) (by kernel_rfl) (RY Wa.heap.size (.func (.func F) #[] #[]) (.pointer (some ⟨w.heap.size + 1, 0, none⟩)) (.slice (some ⟨xg, xo, none⟩) 8 xc) (.pointer (some ⟨xg, xo, none⟩)) (.agg #[.int .i64 a0, .int .i64 a1, .int .i64 a2, .int .i64 a3, .int .i64 a4, .int .i64 a5, .int .i64 a6, .int .i64 a7]) (.pointer (some ⟨w.heap.size + 1, 1, none⟩)) (.slice (some ⟨yg, yo, none⟩) 8 yc) (.pointer (some ⟨yg, yo, none⟩)) (.agg #[.int .i64 b0, .int .i64 b1, .int .i64 b2, .int .i64 b3, .int .i64 b4, .int .i64 b5, .int .i64 b6, .int .i64 b7]) (arrV (trD a0 a1 a2 a3 a4 a5 a6 a7 b0 b1 b2 b3 b4 b5 b6 b7)) (.agg #[.slice ao 8 co, .slice aw nw cw, .slice ab nb cb, .slice sa ns sc]) (.int .i64 (s : Int)) (arrV R)) ry_mono ?_ ?_
  · intro i o hi ho a X hX hA hdep
    have FX := HFT.out.later hX HG1a.out
    have hXs := hX.size
    have hXw := HBWa.out.trans (hX.mono HBWa.out.size)
    match i, hi, ho with
    | 0, _, ho =>
      obtain rfl := Option.some.inj ho
      exact opMoveV (alike_at hA (t := 3) (by kernel_rfl)) ⟨_, rfl, Below.refl _ _, rfl⟩
    | 1, _, ho =>
      obtain rfl := Option.some.inj ho
      exact opFieldT 0 (by omega) (alike_at hA (t := 5) (by kernel_rfl)) ⟨_, rfl, Below.refl _ _, rfl⟩
    | 2, _, ho =>
      obtain rfl := Option.some.inj ho
      have e1 : a.eval (.tmp 40) = .pointer (some ⟨w.heap.size + 1, 0, none⟩) := hdep ⟨1, .data⟩ (by simp) rfl 40 rfl
      exact opLoadI e1 (FX.cell 0) ⟨_, rfl, Below.refl _ _, rfl⟩
    | 3, _, ho =>
      obtain rfl := Option.some.inj ho
      have e1 : a.eval (.tmp 41) = .slice (some ⟨xg, xo, none⟩) 8 xc := hdep ⟨2, .data⟩ (by simp) rfl 41 rfl
      exact opToArr e1 ⟨_, rfl, Below.refl _ _, rfl⟩
    | 4, _, ho =>
      obtain rfl := Option.some.inj ho
      have e1 : a.eval (.tmp 42) = .pointer (some ⟨xg, xo, none⟩) := hdep ⟨3, .data⟩ (by simp) rfl 42 rfl
      exact opLoadArr e1 (HRX.out X hXw) ⟨_, rfl, Below.refl _ _, rfl⟩
    | 5, _, ho =>
      obtain rfl := Option.some.inj ho
      exact opFieldT 1 (by omega) (alike_at hA (t := 5) (by kernel_rfl)) ⟨_, rfl, Below.refl _ _, rfl⟩
    | 6, _, ho =>
      obtain rfl := Option.some.inj ho
      have e1 : a.eval (.tmp 44) = .pointer (some ⟨w.heap.size + 1, 1, none⟩) := hdep ⟨5, .data⟩ (by simp) rfl 44 rfl
      exact opLoadI e1 (FX.cell 1) ⟨_, rfl, Below.refl _ _, rfl⟩
    | 7, _, ho =>
      obtain rfl := Option.some.inj ho
      have e1 : a.eval (.tmp 45) = .slice (some ⟨yg, yo, none⟩) 8 yc := hdep ⟨6, .data⟩ (by simp) rfl 45 rfl
      exact opToArr e1 ⟨_, rfl, Below.refl _ _, rfl⟩
    | 8, _, ho =>
      obtain rfl := Option.some.inj ho
      have e1 : a.eval (.tmp 46) = .pointer (some ⟨yg, yo, none⟩) := hdep ⟨7, .data⟩ (by simp) rfl 46 rfl
      exact opLoadArr e1 (HRY.out X hXw) ⟨_, rfl, Below.refl _ _, rfl⟩
    | 9, _, ho =>
      obtain rfl := Option.some.inj ho
      have e1 : a.eval (.tmp 43) = .agg #[.int .i64 a0, .int .i64 a1, .int .i64 a2, .int .i64 a3, .int .i64 a4, .int .i64 a5, .int .i64 a6, .int .i64 a7] := hdep ⟨4, .data⟩ (by simp) rfl 43 rfl
      have e2 : a.eval (.tmp 47) = .agg #[.int .i64 b0, .int .i64 b1, .int .i64 b2, .int .i64 b3, .int .i64 b4, .int .i64 b5, .int .i64 b6, .int .i64 b7] := hdep ⟨8, .data⟩ (by simp) rfl 47 rfl
      exact opBuildTr e1 e2 ⟨_, rfl, Below.refl _ _, rfl⟩
    | 10, _, ho =>
      obtain rfl := Option.some.inj ho
      exact opLoadHp (alike_at hA (t := 4) (by kernel_rfl)) (HFH.out X hX) ⟨_, rfl, Below.refl _ _, rfl⟩
    | 11, _, ho =>
      obtain rfl := Option.some.inj ho
      exact opMoveV (alike_at hA (t := 2) (by kernel_rfl)) ⟨_, rfl, Below.refl _ _, rfl⟩
    | 12, _, ho =>
      obtain rfl := Option.some.inj ho
      have e0 : a.eval (.tmp 39) = .func (.func F) #[] #[] := hdep ⟨0, .data⟩ (by simp) rfl 39 rfl
      have e1 : a.eval (.tmp 48) = arrV (trD a0 a1 a2 a3 a4 a5 a6 a7 b0 b1 b2 b3 b4 b5 b6 b7) := hdep ⟨9, .data⟩ (by simp) rfl 48 rfl
      have e2 : a.eval (.tmp 49) = .agg #[.slice ao 8 co, .slice aw nw cw, .slice ab nb cb, .slice sa ns sc] := hdep ⟨10, .data⟩ (by simp) rfl 49 rfl
      have e3 : a.eval (.tmp 50) = .int .i64 (s : Int) := hdep ⟨11, .data⟩ (by simp) rfl 50 rfl
      refine hop _ _ _ _ _ _ _ _ _ _ _ _ _ _ _ _ _ e0 e1 e2 e3 (HCC.out X hXw) ?_
      rintro e w' ⟨rfl, hb⟩
      exact ⟨_, rfl, _, rfl, hb, rfl⟩
    | 13, _, ho =>
      obtain rfl := Option.some.inj ho
      exact opAllocTr ⟨_, rfl, (Below.refl _ _).alloc (Nat.le_refl _) _, X.heap.size, rfl, hXs, Arr.new X (trD 0 0 0 0 0 0 0 0 0 0 0 0 0 0 0 0)⟩
  · intro o ho a X hX hA hdep
    obtain rfl := Option.some.inj ho
    have e12 : a.eval (.tmp 51) = arrV R := hdep ⟨12, .data⟩ (by simp) rfl 51 rfl
    obtain ⟨g, e9, hgB, hAr⟩ := hdep ⟨13, .data⟩ (by simp) rfl 9 rfl
    rw [HER.out, trD_v] at e12
    refine opStore16 e9 e12 hAr ⟨rfl, rfl⟩ ?_
    have AY := set16_arr hAr ⟨rfl, rfl⟩ r0 r1 r2 r3 r4 r5 r6 r7 r8 r9 r10 r11 r12 r13 r14 r15
    rw [← HER.out] at AY
    have hXw := HBWa.out.trans (hX.mono HBWa.out.size)
    have hXs := hX.size
    have BY : Below w.heap.size w (set16 X g r0 r1 r2 r3 r4 r5 r6 r7 r8 r9 r10 r11 r12 r13 r14 r15) := set16_below r0 r1 r2 r3 r4 r5 r6 r7 r8 r9 r10 r11 r12 r13 r14 r15 hXw (by have := HBWa.out.size; omega)
    have sY : (set16 X g r0 r1 r2 r3 r4 r5 r6 r7 r8 r9 r10 r11 r12 r13 r14 r15).heap.size = X.heap.size := set16_size _ _ r0 r1 r2 r3 r4 r5 r6 r7 r8 r9 r10 r11 r12 r13 r14 r15
    have hRY : Two (set16 X g r0 r1 r2 r3 r4 r5 r6 r7 r8 r9 r10 r11 r12 r13 r14 r15) (w.heap.size + 2) (.slice none 0 0) (.slice none 0 0) := (HFR.out.later hX HGRa.out).same (set16_other _ _ r0 r1 r2 r3 r4 r5 r6 r7 r8 r9 r10 r11 r12 r13 r14 r15 _ (by have := HGRa.out; omega))
    obtain ⟨us, hus, rfl⟩ := alike_tmps hA [39, 40, 41, 42, 43, 44, 45, 46, 47, 48, 49, 50, 51, 9] (by kernel_rfl)
    have u9 : us 9 = .pointer (some ⟨g, 0, none⟩) := (hus 9).symm.trans e9
    have HGR1 : Hid (w.heap.size + 2 < (set16 X g r0 r1 r2 r3 r4 r5 r6 r7 r8 r9 r10 r11 r12 r13 r14 r15).heap.size) := by show _ < _; rw [sY]; have := HGRa.out; omega
    clear hdep hA hus e9 e12 hAr ho
    generalize set16 X g r0 r1 r2 r3 r4 r5 r6 r7 r8 r9 r10 r11 r12 r13 r14 r15 = Wb at *
    have HBW : Hid (Below w.heap.size w Wb) := BY
    have HRES : Hid (Two Wb (w.heap.size + 2) (.slice none 0 0) (.slice none 0 0)) := hRY
    have HGR : Hid (w.heap.size + 2 < Wb.heap.size) := HGR1
    have HCXb : Hid (∀ X, Below Wb.heap.size Wb X → _) := fun X hX => clone_calls X (some ⟨g, 0, none⟩) 8 R.counts ((AY.later hX).rdx HR8.out) (by have := HR8.out.1; omega)
    have HCYb : Hid (∀ X, Below Wb.heap.size Wb X → _) := fun X hX => clone_calls X (some ⟨g, 8, none⟩) 8 R.colors ((AY.later hX).rdy HR8.out) (by have := HR8.out.2; omega)
    rw [HR8.out.1] at HCXb
    rw [HR8.out.2] at HCYb
    clear BY sY hRY HGR1 hXw hXs hX HFR HGRa HFT HG1a HFH HBWa HRX HRY HCC AY hop HER
    simp only [List.mapIdx_cons, List.mapIdx_nil, Nat.reduceAdd, List.contains_cons, List.contains_nil, Nat.reduceBEq, Bool.or_false, Bool.or_true, if_true, if_false, Bool.false_eq_true]
    rw [u9]
    clear u9
    go_wp2
    refine wp_region_pair 7 (by kernel_rfl) (by kernel_rfl) (RU Wb.heap.size (.pointer (some ⟨g, 0, none⟩)) (.slice (some ⟨g, 0, none⟩) 8 8) (.pointer (some ⟨g, 8, none⟩)) (.slice (some ⟨g, 8, none⟩) 8 8) R.counts R.colors) DU ru_mono ?_ ?_
    · intro i o hi ho a X hX hA dn hbn hdep
      have hXs := hX.size
      match i, hi, ho with
      | 0, _, ho =>
        obtain rfl := Option.some.inj ho
        exact opFieldR0 (alike_at hA (t := 9) (by kernel_rfl)) ⟨_, rfl, Below.refl _ _, rfl, fun j hj _ t ht => du_no rfl⟩
      | 1, _, ho =>
        obtain rfl := Option.some.inj ho
        have e1 : a.eval (.tmp 52) = (.pointer (some ⟨g, 0, none⟩)) := hbn.yields 0 (hdep ⟨0, .data⟩ (by simp) rfl) 52 rfl
        exact opSliceArr e1 ⟨_, rfl, Below.refl _ _, rfl, fun j hj _ t ht => du_no rfl⟩
      | 2, _, ho =>
        obtain rfl := Option.some.inj ho
        have e1 : a.eval (.tmp 53) = (.slice (some ⟨g, 0, none⟩) 8 8) := hbn.yields 1 (hdep ⟨1, .data⟩ (by simp) rfl) 53 rfl
        refine opCloneI e1 (HCXb.out X hX) ?_
        rintro e w' ⟨x, rfl, hx, hb⟩
        exact ⟨x, rfl, ⟨_, rfl, hb, ownI_mono hx hXs, fun j hj _ t ht => du_new (hbn.yields j hj t ht) hx⟩⟩
      | 3, _, ho =>
        obtain rfl := Option.some.inj ho
        exact opFieldR1 (alike_at hA (t := 9) (by kernel_rfl)) ⟨_, rfl, Below.refl _ _, rfl, fun j hj _ t ht => du_no rfl⟩
      | 4, _, ho =>
        obtain rfl := Option.some.inj ho
        have e1 : a.eval (.tmp 55) = (.pointer (some ⟨g, 8, none⟩)) := hbn.yields 3 (hdep ⟨3, .data⟩ (by simp) rfl) 55 rfl
        exact opSliceArr e1 ⟨_, rfl, Below.refl _ _, rfl, fun j hj _ t ht => du_no rfl⟩
      | 5, _, ho =>
        obtain rfl := Option.some.inj ho
        have e1 : a.eval (.tmp 56) = (.slice (some ⟨g, 8, none⟩) 8 8) := hbn.yields 4 (hdep ⟨4, .data⟩ (by simp) rfl) 56 rfl
        refine opCloneI e1 (HCYb.out X hX) ?_
        rintro e w' ⟨x, rfl, hx, hb⟩
        exact ⟨x, rfl, ⟨_, rfl, hb, ownI_mono hx hXs, fun j hj _ t ht => du_new (hbn.yields j hj t ht) hx⟩⟩
      | 6, _, ho =>
        obtain rfl := Option.some.inj ho
        have d2 := hdep ⟨2, .data⟩ (by simp) rfl
        have d5 := hdep ⟨5, .data⟩ (by simp) rfl
        have q1 : ownI X Wb.heap.size (a.eval (.tmp 54)) R.counts := hbn.yields 2 d2 54 rfl
        have q2 : ownI X Wb.heap.size (a.eval (.tmp 57)) R.colors := hbn.yields 5 d5 57 rfl
        have q3 : Dif2 (a.eval (.tmp 54)) (a.eval (.tmp 57)) := hbn.pairs 2 5 d2 d5 (by decide) 54 57 rfl rfl (by decide) (by decide) (by decide)
        obtain ⟨x1, c1, e1, -⟩ := rdI_own q1
        obtain ⟨x2, c2, e2, -⟩ := rdI_own q2
        rw [e1] at q1 q3
        rw [e2] at q2 q3
        exact opBuild2 e1 e2 ⟨_, rfl, Below.refl _ _, ⟨x1, c1, x2, c2, rfl, q1, q2, q3⟩, fun j hj _ t ht => du_no rfl⟩
    · intro o ho a X hX hA dn hbn hdn
      obtain rfl := Option.some.inj ho
      obtain ⟨x1, c1, x2, c2, e2, q1, q2, q3⟩ := hbn.yields 6 (hdn 6 (by omega)) 58 rfl
      have e1 : a.eval (.tmp 8) = .pointer (some ⟨w.heap.size + 2, 0, none⟩) := alike_at hA (t := 8) (by kernel_rfl)
      have hf : Two X (w.heap.size + 2) (.slice none 0 0) (.slice none 0 0) := HRES.out.later hX (HGR.out)
      refine opStoreT e1 e2 hf ?_
      obtain ⟨us, hus, rfl⟩ := alike_tmps hA [52, 53, 54, 55, 56, 57, 58] (by kernel_rfl)
      obtain ⟨k0, k1⟩ := setTwo_cell (.slice x1 (R.counts).length c1) (.slice x2 (R.colors).length c2) hf
      have HT : Hid (TM (setTwo X (w.heap.size + 2) (.slice x1 (R.counts).length c1) (.slice x2 (R.colors).length c2)) w.heap.size ⟨x1, (R.counts).length, c1, x2, (R.colors).length, c2⟩ ⟨R.counts, R.colors⟩) := by
        have ne : ∀ {v : Value} {zs : List Int}, ownI X Wb.heap.size v zs → ownI (setTwo X (w.heap.size + 2) (.slice x1 (R.counts).length c1) (.slice x2 (R.colors).length c2)) w.heap.size v zs := fun hr => ownI_mono (ownI_same hr (fun i hi => setTwo_other _ _ _ _ i (by have := (ownI_lt hr i hi).1; have := HGR.out; omega))) (Nat.le_trans HBW.out.size (Nat.le_refl _))
        exact ⟨ne q1, ne q2, q3⟩
      have HB : Hid (Below w.heap.size w (setTwo X (w.heap.size + 2) (.slice x1 (R.counts).length c1) (.slice x2 (R.colors).length c2))) := by
        unfold setTwo
        exact ((HBW.out.trans (hX.mono HBW.out.size)).setCell (by simp) _).setCell (by simp) _
      clear hbn hdn hA hus e1 e2 hf q1 q2 q3 ho
      generalize setTwo X (w.heap.size + 2) (.slice x1 (R.counts).length c1) (.slice x2 (R.colors).length c2) = Y at *
      simp only [List.mapIdx_cons, List.mapIdx_nil, Nat.reduceAdd, List.contains_cons, List.contains_nil, Nat.reduceBEq, Bool.or_false, Bool.or_true, if_true, if_false, Bool.false_eq_true]
      go_wp2
      exact bodyPost_ret (v := .agg #[.slice x1 (R.counts).length c1, .slice x2 (R.colors).length c2]) (by simp [results, Try.results60, go_sem, *]) rfl ⟨⟨x1, (R.counts).length, c1, x2, (R.colors).length, c2⟩, rfl, HT.out, HB.out⟩

end Go.Proofs.Ytjhceoejblmihaa
