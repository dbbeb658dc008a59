/- What spec.MarkGray makes where it turns (written by wip/mkgray.py). -/
import Derived.Test.YtjhceoejblmihaaBlackWalks
import Derived.Test.YtjhceoejblmihaaTrialOk
namespace Go.Proofs.Ytjhceoejblmihaa
open Go.RowKit
set_option linter.unusedVariables false
set_option maxRecDepth 100000

set_option maxHeartbeats 8000000 in
theorem sGray_yes (v u : Value) (H : HeapD) (T : TrialD) (k : Nat) (w : World) (h : RdH w v H) (ht : RdT w u T) (hs : SmallH H) (hst : SmallT T) (hf : ∀ o ∈ H.objs, ∀ z ∈ o.field, in64 z) (hok : OkT H T (k : Int)) (hno : T.colors.getD k 0 ≠ 1) :
    Calls Try.prog 25 #[v, u, .int .i64 (k : Int)] w fun e w' => ∃ s : TSh, e = .returned s.v ∧ TM w' w.heap.size s (grayT H T (k : Int)) ∧ Below w.heap.size w w' := by
  have HRH : Hid (∀ X, Below w.heap.size w X → RdH X v H) := fun X hX => rdH_later h hX
  have HRT : Hid (∀ X, Below w.heap.size w X → RdT X u T) := fun X hX => rdT_later ht hX
  obtain ⟨ao, co, aw, cw, ab, cb, sa, sc, rfl, -⟩ := h
  obtain ⟨xa, xc, ya, yc, rfl, -, ri⟩ := ht
  obtain ⟨W, hW⟩ : ∃ W, W = ((w.alloc (.cells #[.slice ao H.objs.length co, .slice aw H.weaks.length cw, .slice ab H.buffer.length cb, .slice sa H.sites.length sc] 35)).alloc (.cells #[.slice xa T.counts.length xc, .slice ya T.colors.length yc] 30)).alloc (.cells #[.slice none 0 0, .slice none 0 0] 30) := ⟨_, rfl⟩
  have BW : Below w.heap.size w W := by rw [hW]; exact (((Below.refl _ _).alloc (Nat.le_refl _) _).alloc (by simp) _).alloc (by simp; omega) _
  have hWs : W.heap.size = w.heap.size + 3 := by rw [hW]; simp
  have q0 : Four W w.heap.size (.slice ao H.objs.length co) (.slice aw H.weaks.length cw) (.slice ab H.buffer.length cb) (.slice sa H.sites.length sc) := by
    have f1 := Four.new w (.slice ao H.objs.length co) (.slice aw H.weaks.length cw) (.slice ab H.buffer.length cb) (.slice sa H.sites.length sc)
    exact Eq.trans (by rw [hW, Below.heap_alloc _ _ _ (by simp; omega), Below.heap_alloc _ _ _ (by simp)]) f1
  have q1 : Two W (w.heap.size + 1) (.slice xa T.counts.length xc) (.slice ya T.colors.length yc) := by
    have f1 := Two.new (w.alloc (.cells #[.slice ao H.objs.length co, .slice aw H.weaks.length cw, .slice ab H.buffer.length cb, .slice sa H.sites.length sc] 35)) (.slice xa T.counts.length xc) (.slice ya T.colors.length yc)
    rw [show (w.alloc (.cells #[.slice ao H.objs.length co, .slice aw H.weaks.length cw, .slice ab H.buffer.length cb, .slice sa H.sites.length sc] 35)).heap.size = w.heap.size + 1 from by simp] at f1
    exact Eq.trans (by rw [hW, Below.heap_alloc _ _ _ (by simp)]) f1
  have q2 : Two W (w.heap.size + 2) (.slice none 0 0) (.slice none 0 0) := by
    have f1 := Two.new ((w.alloc (.cells #[.slice ao H.objs.length co, .slice aw H.weaks.length cw, .slice ab H.buffer.length cb, .slice sa H.sites.length sc] 35)).alloc (.cells #[.slice xa T.counts.length xc, .slice ya T.colors.length yc] 30)) (.slice none 0 0) (.slice none 0 0)
    rw [show ((w.alloc (.cells #[.slice ao H.objs.length co, .slice aw H.weaks.length cw, .slice ab H.buffer.length cb, .slice sa H.sites.length sc] 35)).alloc (.cells #[.slice xa T.counts.length xc, .slice ya T.colors.length yc] 30)).heap.size = w.heap.size + 2 from by simp] at f1
    rw [hW]
    exact f1
  have HQ : Hid (∀ X, Below W.heap.size W X → Four X w.heap.size (.slice ao H.objs.length co) (.slice aw H.weaks.length cw) (.slice ab H.buffer.length cb) (.slice sa H.sites.length sc) ∧ Two X (w.heap.size + 1) (.slice xa T.counts.length xc) (.slice ya T.colors.length yc) ∧ Two X (w.heap.size + 2) (.slice none 0 0) (.slice none 0 0)) :=
    fun X hX => ⟨q0.same (hX.block _ (by omega)), q1.same (hX.block _ (by omega)), q2.same (hX.block _ (by omega))⟩
  have HBW : Hid (Below w.heap.size w W) := BW
  have HWs : Hid (W.heap.size = w.heap.size + 3) := hWs
  have CC : Hid (∀ _ : Unit, _) := fun (_ : Unit) => sCopyT_calls _ T W (HRT.out W BW) hst
  obtain ⟨b, hb⟩ : ∃ b : Bool, b = true ↔ OkT H T (k : Int) := by
    by_cases h : OkT H T (k : Int)
    · exact ⟨true, by simp [h]⟩
    · exact ⟨false, by simp [h]⟩
  have CO : Hid (∀ X, Below w.heap.size w X → _) := fun X hX => sOkT_calls _ _ H T (k : Int) X (HRH.out X hX) (HRT.out X hX) hs hst b hb
  have HRI : Hid (∀ X, Below w.heap.size w X → RdI X ya T.colors) := fun X hX => rdI_later ri hX
  have HBO : Hid (b = true ↔ OkT H T (k : Int)) := hb
  have HS : Hid (SmallH H) := hs
  have HF : Hid (∀ o ∈ H.objs, ∀ z ∈ o.field, in64 z) := hf
  obtain rfl : b = true := hb.2 hok
  have HOK : Hid (OkT H T (k : Int)) := hok
  have HNO : Hid (T.colors.getD k 0 ≠ 1) := hno
  have HR : Hid (∀ X, Below w.heap.size w X → RdH X _ H) := HRH.out
  have hlc := hst.colors
  clear q0 q1 q2 BW hWs HRH HRT hs hst hno ri hb hok hf
  go_enter Try.func25, Try.ntmps25
  go_wp2_with fail
  rw [← hW]
  clear hW
  refine (CC.out ()).mono ?_
  rintro e w1 ⟨s, rfl, M1, b1⟩
  obtain ⟨V, hV⟩ : ∃ V, V = w1.alloc (.cells #[.slice s.a s.n s.c, .slice s.b s.m s.d] 30) := ⟨_, rfl⟩
  have BV : Below w1.heap.size w1 V := by rw [hV]; exact (Below.refl _ _).alloc (Nat.le_refl _) _
  have HTV : Hid (TM V W.heap.size s T) := M1.later BV
  have HXV : Hid (Two V w1.heap.size (.slice s.a s.n s.c) (.slice s.b s.m s.d)) := by rw [hV]; exact Two.new w1 _ _
  have HBV : Hid (Below W.heap.size W V) := b1.trans (BV.mono b1.size)
  have HW1 : Hid (W.heap.size ≤ w1.heap.size) := b1.size
  have HVV : Hid (Below w.heap.size w V) := HBW.out.trans (HBV.out.mono HBW.out.size)
  obtain ⟨F1, X1, X2⟩ := HQ.out w1 b1
  have f0 : w1.cell? ⟨w.heap.size, 0, none⟩ = some (.slice ao H.objs.length co) := F1.cell 0
  have f1 : w1.cell? ⟨w.heap.size, 1, none⟩ = some (.slice aw H.weaks.length cw) := F1.cell 1
  have f2 : w1.cell? ⟨w.heap.size, 2, none⟩ = some (.slice ab H.buffer.length cb) := F1.cell 2
  have f3 : w1.cell? ⟨w.heap.size, 3, none⟩ = some (.slice sa H.sites.length sc) := F1.cell 3
  have t0 : w1.cell? ⟨w.heap.size + 1, 0, none⟩ = some (.slice xa T.counts.length xc) := X1.cell 0
  have t1 : w1.cell? ⟨w.heap.size + 1, 1, none⟩ = some (.slice ya T.colors.length yc) := X1.cell 1
  have g0 : w.heap.size < w1.heap.size := F1.lt
  have g1 : w.heap.size + 1 < w1.heap.size := X1.lt
  have n0 : ¬ w.heap.size = w1.heap.size := by omega
  have n1 : ¬ w.heap.size + 1 = w1.heap.size := by omega
  have HC2 : Hid (Calls _ _ _ V _) := CO.out V HVV.out
  rw [show s.v = .agg #[.slice s.a s.n s.c, .slice s.b s.m s.d] from rfl]
  clear CC CO M1 b1 BV F1 X1 X2
  go_wp2_with fail
  rw [← hV]
  clear hV
  refine HC2.out.mono ?_
  rintro e w2 ⟨rfl, b2⟩
  have HB2 : Hid (Below W.heap.size W w2) := HBV.out.trans (b2.mono HBV.out.size)
  have HT2 : Hid (TM w2 W.heap.size s T) := HTV.out.later b2
  have X2 : Two w2 w1.heap.size (.slice s.a s.n s.c) (.slice s.b s.m s.d) := HXV.out.later b2 HXV.out.lt
  obtain ⟨-, T1, R1⟩ := HQ.out w2 HB2.out
  have x0 : w2.cell? ⟨w1.heap.size, 0, none⟩ = some (.slice s.a s.n s.c) := X2.cell 0
  have x1 : w2.cell? ⟨w1.heap.size, 1, none⟩ = some (.slice s.b s.m s.d) := X2.cell 1
  have u1 : w2.cell? ⟨w.heap.size + 1, 1, none⟩ = some (.slice ya T.colors.length yc) := T1.cell 1
  have r0 : w2.cell? ⟨w.heap.size + 2, 0, none⟩ = some (.slice none 0 0) := R1.cell 0
  have r1 : w2.cell? ⟨w.heap.size + 2, 1, none⟩ = some (.slice none 0 0) := R1.cell 1
  have z0 := R1.frozen 0
  have z1 := R1.frozen 1
  have HBs : Hid (W.heap.size = w.heap.size + 3) := HWs.out
  have H8 : Hid (H.objs.length = 8) := HOK.out.objs
  have hk : k < 8 := by have := HOK.out.hi; omega
  obtain ⟨sn, sm⟩ := HT2.out.lens
  rw [HOK.out.counts] at sn
  rw [HOK.out.colors] at sm
  have form : ∀ {a : Option Addr} {c : Nat} {zs : List Int}, ownI w2 W.heap.size (.slice a 8 c) zs → ∃ g, a = some ⟨g, 0, none⟩ := fun ho => by
    rcases ownI_form ho with ⟨h1, -⟩ | ⟨g, cap, h1, -⟩
    · simp at h1
    · simp only [Value.slice.injEq] at h1; exact ⟨g, h1.1⟩
  obtain ⟨sa', sn', c, sb', sm', d⟩ := s
  simp only at sn sm
  subst sn sm
  obtain ⟨ga, rfl⟩ := form HT2.out.x
  obtain ⟨gb, rfl⟩ := form HT2.out.y
  have hne : ga ≠ gb := fun e => HT2.out.dif ga rfl (by show some gb = some ga; rw [e])
  have la : ga < w2.heap.size := (ownI_lt HT2.out.x ga rfl).2
  have lb : gb < w2.heap.size := (ownI_lt HT2.out.y gb rfl).2
  have lga : W.heap.size ≤ ga := (ownI_lt HT2.out.x ga rfl).1
  have lgb : W.heap.size ≤ gb := (ownI_lt HT2.out.y gb rfl).1
  have b1 : BI w2 w2 W.heap.size ga gb c d T (.slice none 0 0) [] := ⟨Below.refl _ _, fun _ _ _ _ => rfl, HT2.out.x, HT2.out.y, hne, la, lb, HB2.out.size, ownI_nil _ _⟩
  obtain ⟨-, -, cb0, fb0⟩ := bi_cells b1 k hk
  obtain ⟨-, T1', -⟩ := HQ.out w2 HB2.out
  have hgx : w1.heap.size ≠ ga ∧ w1.heap.size ≠ gb := by
    have xk : w2.heap[w1.heap.size]? = some (.cells #[.slice (some ⟨ga, 0, none⟩) 8 c, .slice (some ⟨gb, 0, none⟩) 8 d] 30 (0, 0)) := X2
    obtain ⟨cu1, k1⟩ := row_kind HT2.out.x ga rfl
    obtain ⟨cu2, k2⟩ := row_kind HT2.out.y gb rfl
    exact ⟨fun e => kind_ne xk k1 (by decide) e, fun e => kind_ne xk k2 (by decide) e⟩
  have HQ2 : Hid (∀ X, (∀ g, g < w2.heap.size → g ≠ ga → g ≠ gb → X.heap[g]? = w2.heap[g]?) → Four X w.heap.size (.slice ao H.objs.length co) (.slice aw H.weaks.length cw) (.slice ab H.buffer.length cb) (.slice sa H.sites.length sc) ∧ Two X w1.heap.size (.slice (some ⟨ga, 0, none⟩) 8 c) (.slice (some ⟨gb, 0, none⟩) 8 d) ∧ Two X (w.heap.size + 2) (.slice none 0 0) (.slice none 0 0)) := by
    have e3 := HBs.out
    have e4 := HB2.out.size
    obtain ⟨p0, -, p2⟩ := HQ.out w2 HB2.out
    exact fun X hX => ⟨p0.same (hX _ (by omega) (by omega) (by omega)), X2.same (hX _ X2.lt hgx.1 hgx.2), p2.same (hX _ (by omega) (by omega) (by omega))⟩
  have HB0 : Hid (BI w2 ((w2.setCell ⟨gb, k, none⟩ (.int .i64 1)).alloc (.cells #[.int .i64 (k : Int)] 3)) W.heap.size ga gb c d ⟨T.counts, T.colors.set k 1⟩ (.slice (some ⟨w2.heap.size, 0, none⟩) 1 1) [(k : Int)]) := by
    have b2 := bi_color b1 k 1
    have hz : (w2.setCell ⟨gb, k, none⟩ (.int .i64 1)).heap.size = w2.heap.size := by simp [World.setCell]
    have b3 := bi_later b2 ((Below.refl _ _).alloc (Nat.le_refl _) (.cells #[.int .i64 (k : Int)] 3))
    have b4 := ownI_one (w2.setCell ⟨gb, k, none⟩ (.int .i64 1)) w2.heap.size (k : Int) (by omega)
    rw [hz] at b4
    exact ⟨b3.bel, b3.oth, b3.x, b3.y, b3.ne, b3.la, b3.lb, b3.hB, b4⟩
  have HSL : Hid (Slots [(k : Int)]) := fun z hz => by rw [List.mem_singleton.1 hz]; omega
  have HRR : Hid (grayT H T (k : Int) = spreadAll (-1) 1 H ⟨T.counts, T.colors.set k 1⟩ [(k : Int)]) := by show _ = _; unfold grayT; rw [show ((k : Int)).toNat = k from by omega]
  have HM0 : Hid (mu 1 ((⟨T.counts, T.colors.set k 1⟩ : TrialD), [(k : Int)]) ≤ 17) := by
    have h1 := others_le 1 (T.colors.set k 1)
    rw [List.length_set, HOK.out.colors] at h1
    show 2 * others 1 (T.colors.set k 1) + 1 ≤ 17
    omega
  have HBW2 : Hid (Below w.heap.size w w2) := HBW.out.trans (HB2.out.mono HBW.out.size)
  obtain ⟨gc, off, hya, -, hcc⟩ := HRI.out w2 HBW2.out k (by rw [HOK.out.colors]; exact hk)
  obtain ⟨y0, hy0⟩ : ∃ y0, T.colors.getD k 0 = y0 := ⟨_, rfl⟩
  have hcc2 : w2.cell? ⟨gc, off + k, none⟩ = some (.int .i64 y0) := by
    rw [← hy0, List.getD_eq_getElem?_getD, List.getElem?_eq_getElem (by rw [HOK.out.colors]; exact hk)]
    exact hcc
  have hq0 : (y0 == 1) = false := by rw [← hy0]; simpa using HNO.out
  have h8c := HOK.out.colors
  have h8o := HOK.out.objs
  subst hya
  rw [h8c] at u1
  rw [h8o] at HQ2 HR
  rw [h8c, h8o]
  clear hcc hy0
  clear HQ HBW
  have HQ := HQ2
  have HBW := HBW2
  obtain ⟨R, hRG⟩ : ∃ R, grayT H T (k : Int) = R := ⟨_, rfl⟩
  have HRG : Hid (grayT H T (k : Int) = R) := hRG
  rw [hRG] at HRR
  clear hRG
  obtain ⟨gx, hgx0⟩ : ∃ gx, w1.heap.size = gx := ⟨_, rfl⟩
  rw [hgx0] at HQ x0 x1 ⊢
  obtain ⟨B, hBB⟩ : ∃ B, W.heap.size = B := ⟨_, rfl⟩
  rw [hBB] at HB0 HBs
  clear f0 f1 f2 f3 t0 t1 g0 g1 n0 n1 T1 R1 X2 b2 HQ2 HBW2 T1' hgx b1 form HT2 HTV HXV HC2 hgx0 h8c h8o HRI la lb lga lgb hne HBV HW1 HVV HWs hBB HB2
  go_wp2
  go_loopw [8] (fun vq wr => ∃ (T' : TrialD) (todo : List Int) (qa : Option Addr) (qc : Nat), vq = .slice qa todo.length qc ∧ Hid (BI w2 wr B ga gb c d T' vq todo) ∧ Hid (Slots todo) ∧ Hid (mu 1 (T', todo) ≤ 17) ∧ Hid (R = spreadAll (-1) 1 H T' todo)) (fun vq wr => lenV vq + 2 * othersAt wr gb 1)
  case atStart => exact ⟨_, [(k : Int)], _, 1, rfl, HB0, HSL, HM0, HRR⟩
  case round =>
    obtain ⟨T', todo, qa, qc, rfl, HI, HT, HMU, HRS⟩ := hrel
    obtain ⟨F0, X1, X2⟩ := HQ.out wr HI.out.oth
    rcases List.eq_nil_or_concat todo with rfl | ⟨rest, kz, rfl⟩
    · have HE : Hid (R = T') := by show _ = _; rw [HRS.out, spreadAll_nil]
      have x0 : wr.cell? ⟨gx, 0, none⟩ = some (.slice (some ⟨ga, 0, none⟩) 8 c) := X1.cell 0
      have x1 : wr.cell? ⟨gx, 1, none⟩ = some (.slice (some ⟨gb, 0, none⟩) 8 d) := X1.cell 1
      have r0 : wr.cell? ⟨w.heap.size + 2, 0, none⟩ = some (.slice none 0 0) := X2.cell 0
      have r1 : wr.cell? ⟨w.heap.size + 2, 1, none⟩ = some (.slice none 0 0) := X2.cell 1
      have z0 := X2.frozen 0
      have z1 := X2.frozen 1
      have HFIN : Hid (TM (setTwo wr (w.heap.size + 2) (.slice (some ⟨ga, 0, none⟩) 8 c) (.slice (some ⟨gb, 0, none⟩) 8 d)) w.heap.size ⟨some ⟨ga, 0, none⟩, 8, c, some ⟨gb, 0, none⟩, 8, d⟩ R ∧ Below w.heap.size w (setTwo wr (w.heap.size + 2) (.slice (some ⟨ga, 0, none⟩) 8 c) (.slice (some ⟨gb, 0, none⟩) 8 d))) := by
        have e3 := HBs.out
        rw [HE.out]
        refine ⟨⟨ownI_mono (ownI_same HI.out.x (fun g hg => setTwo_other _ _ _ _ g (by have := (ownI_lt HI.out.x g hg).1; omega))) (by omega), ownI_mono (ownI_same HI.out.y (fun g hg => setTwo_other _ _ _ _ g (by have := (ownI_lt HI.out.y g hg).1; omega))) (by omega), fun g h1 h2 => ?_⟩, ?_⟩
        · have e1 : ga = g := by simpa [TSh.x, Value.ownBlock] using h1
          have e2 : gb = g := by simpa [TSh.y, Value.ownBlock] using h2
          exact HI.out.ne (by omega)
        · unfold setTwo
          exact ((HBW.out.trans (HI.out.bel.mono (by omega))).setCell (by simp) _).setCell (by simp) _
      clear F0 X1 X2 HI HRS
      go_wp2
      exact bodyPost_ret (v := .agg #[.slice (some ⟨ga, 0, none⟩) 8 c, .slice (some ⟨gb, 0, none⟩) 8 d]) (by simp [results, Try.results25, go_sem, *]) rfl ⟨⟨some ⟨ga, 0, none⟩, 8, c, some ⟨gb, 0, none⟩, 8, d⟩, rfl, by rw [HRG.out]; exact HFIN.out⟩
    · rw [List.concat_eq_append] at *
      obtain ⟨m, hm⟩ : ∃ m, rest.length = m := ⟨_, rfl⟩
      have hl : (rest ++ [kz]).length = m + 1 := by simp [hm]
      rw [hl] at HI ⊢
      obtain ⟨s, rfl⟩ : ∃ s : Nat, kz = (s : Int) := ⟨kz.toNat, by have := HT.out kz (by simp); omega⟩
      have hs8 : s < 8 := by have := HT.out (s : Int) (by simp); omega
      rcases ownI_form HI.out.q with ⟨h1, -⟩ | ⟨gq, cap, h1, hgq, hgl, hcap, hmax, HC⟩
      · simp at h1
      have e1 : qa = some ⟨gq, 0, none⟩ ∧ qc = cap := by simp only [Value.slice.injEq] at h1; exact ⟨h1.1, h1.2.2⟩
      obtain ⟨rfl, rfl⟩ := e1
      have hcell : wr.cell? ⟨gq, m, none⟩ = some (.int .i64 (s : Int)) := by
        have h2 := (HC.out m (by omega)).1
        rw [List.getElem_append_right (by omega)] at h2
        simpa using h2
      rw [hl] at hcap
      have hm17 : m ≤ 17 := by have := HMU.out; simp only [mu] at this; omega
      have HPOP : Hid (BI w2 wr B ga gb c d T' (.slice (some ⟨gq, 0, none⟩) m qc) rest) := bi_pop HI.out
      have hsl : s < H.objs.length := by have := H8.out; omega
      have CK : Hid (∀ _ : Unit, _) := fun (_ : Unit) => sKids_calls _ H s wr (HR.out wr (HBW.out.trans (HI.out.bel.mono (by have := HBs.out; omega)))) HS.out hsl (HF.out _ (List.getElem_mem hsl))
      have HKS : Hid (kidsOf H (s : Int) = kidL H H.objs[s].field) := kidsOf_at H s hsl
      have HSN : Hid (R = spreadAll (-1) 1 H (roundS (-1) 1 (kidsOf H) T' rest (s : Int)).1 (roundS (-1) 1 (kidsOf H) T' rest (s : Int)).2) := by show _ = _; rw [HRS.out, spreadAll_snoc (-1) 1 H T' rest (s : Int) HI.out.eight HT.out]
      have HRO : Hid _ := round_ok (-1) 1 (kidsOf H) (kidsOf_slots H) T' rest (s : Int) HI.out.eight HT.out
      have HKSL : Hid (Slots (kidL H H.objs[s].field)) := kidL_slots H _
      have HMS : Hid (othersAt wr gb 1 = others 1 T'.colors) := othersAt_is HI.out 1
      have HRSL : Hid (Slots rest) := fun z hz => HT.out z (by simp [hz])
      have HE8 : Hid (Eight T') := HI.out.eight
      unfold roundS at HSN HRO
      rw [HKS.out] at HSN HRO
      have hkl := Nat.le_trans (kidL_le H H.objs[s].field) (HS.out.fields _ (List.getElem_mem hsl))
      generalize kidL H H.objs[s].field = ks at *
      have f0 : wr.cell? ⟨w.heap.size, 0, none⟩ = some (.slice ao 8 co) := F0.cell 0
      have f1 : wr.cell? ⟨w.heap.size, 1, none⟩ = some (.slice aw H.weaks.length cw) := F0.cell 1
      have f2 : wr.cell? ⟨w.heap.size, 2, none⟩ = some (.slice ab H.buffer.length cb) := F0.cell 2
      have f3 : wr.cell? ⟨w.heap.size, 3, none⟩ = some (.slice sa H.sites.length sc) := F0.cell 3
      have HGQ : Hid (gq < wr.heap.size) := hgl
      have HWB : Hid (w2.heap.size ≤ wr.heap.size) := HI.out.bel.size
      have hmc : (m : Int) ≤ (qc : Int) := by omega
      have hb1 : decide ((0 : Int) < (m : Int) + 1) = true := decide_eq_true (by omega)
      clear F0 X1 X2 HI HRS HC hgl hgq hmax h1 hl hm HT HKS hsl
      go_wp2_with fail
      refine (CK.out ()).mono ?_
      rintro e w1 ⟨vk, rfl, O1, b1⟩
      obtain ⟨ka, kc, rfl, -⟩ := rdI_own O1
      have HI1 : Hid (BI w2 w1 B ga gb c d T' (.slice (some ⟨gq, 0, none⟩) m qc) rest) := bi_later HPOP.out b1
      have HK1 : Hid (ownI w1 w2.heap.size (.slice ka ks.length kc) ks) := ownI_mono O1 HWB.out
      have HD1 : Hid (Dif2 (.slice (some ⟨gq, 0, none⟩) m qc) (.slice ka ks.length kc)) := fun g h1 h2 => by
        have e1 : gq = g := by simpa [Value.ownBlock] using h1
        have e2 := (ownI_lt O1 g h2).1
        have e3 := HGQ.out
        omega
      have HM1 : Hid (mu 1 (T', rest) ≤ 17) := by
        have h1 := HMU.out
        simp only [mu, List.length_append, List.length_singleton] at h1
        show 2 * others 1 T'.colors + rest.length ≤ 17
        omega
      have HLR : Hid (rest.length = m) := own_len HI1.out.q ▸ rfl
      clear O1 b1 CK HPOP f0 f1 f2 f3 hcell
      obtain ⟨n, hn⟩ : ∃ n, ks.length = n := ⟨_, rfl⟩
      have Hn : Hid (ks.length = n) := hn
      rw [hn] at HK1 HD1 hkl ⊢
      clear hn
      go_wp2
      go_loopw [8, 11] (fun vq i X => ∃ (j : Nat) (T2 : TrialD) (td : List Int) (qa2 : Option Addr) (qc2 : Nat), i = .int .i64 (j : Int) ∧ vq = .slice qa2 td.length qc2 ∧ j ≤ n ∧ Hid (BI w2 X B ga gb c d T2 vq td) ∧ Hid ((ks.take j).foldl (kidStep (-1) 1) (T', rest) = (T2, td)) ∧ Hid (ownI X w2.heap.size (.slice ka n kc) ks) ∧ Hid (Dif2 vq (.slice ka n kc))) (fun _ i _ => n - (intOf i).toNat)
      case atStart => exact ⟨0, T', rest, _, qc, rfl, by rw [HLR.out], by omega, HI1, rfl, HK1, HD1⟩
      case round =>
        obtain ⟨j, T2, td, qa2, qc2, rfl, rfl, hjn, HI2, HFO, HK2, HD2⟩ := hrel
        by_cases hlt : j < n
        · have hj2 : j < ks.length := by have := Hn.out; omega
          obtain ⟨t, ht⟩ : ∃ t : Nat, ks[j] = (t : Int) := ⟨ks[j].toNat, by have := HKSL.out _ (List.getElem_mem hj2); omega⟩
          have ht8 : t < 8 := by have := HKSL.out _ (List.getElem_mem hj2); omega
          have HML : Hid (td.length ≤ 17) := by
            have h1 := (kids_ok (-1) 1 (ks.take j) (T', rest) HE8.out HRSL.out (fun z hz => HKSL.out z (List.mem_of_mem_take hz))).2.2
            rw [HFO.out] at h1
            have h2 := HM1.out
            simp only [mu] at h1 h2
            show _ ≤ _
            omega
          have HSTEP : Hid ((ks.take (j + 1)).foldl (kidStep (-1) 1) (T', rest) = kidStep (-1) 1 (T2, td) (t : Int)) := by
            show _ = _
            rw [List.take_succ_eq_append_getElem hj2, List.foldl_append, HFO.out, ht]; rfl
          rcases ownI_form HK2.out with ⟨h1, -⟩ | ⟨gk, cap, h1, hgkB, hgk, hcp, hmx, HC⟩
          · simp only [Value.slice.injEq] at h1; omega
          obtain ⟨rfl, rfl⟩ : ka = some ⟨gk, 0, none⟩ ∧ kc = cap := by simp only [Value.slice.injEq] at h1; exact ⟨h1.1, h1.2.2⟩
          have hck : wr.cell? ⟨gk, j, none⟩ = some (.int .i64 (t : Int)) := by
            have h2 := (HC.out j hj2).1
            rw [ht] at h2
            exact h2
          obtain ⟨ca, -, -, -⟩ := bi_cells HI2.out t ht8
          obtain ⟨-, X1, -⟩ := HQ.out wr HI2.out.oth
          have hgal : ga < wr.heap.size := Nat.lt_of_lt_of_le HI2.out.la HI2.out.bel.size
          obtain ⟨z, hz⟩ : ∃ z, T2.counts.getD t 0 = z := ⟨_, rfl⟩
          obtain ⟨y, hy⟩ : ∃ y, T2.colors.getD t 0 = y := ⟨_, rfl⟩
          rw [hz] at ca
          have HKST : Hid (kidStep (-1) 1 (T2, td) (t : Int) = if y = 1 then ((⟨T2.counts.set t (wrap64 (z - 1)), T2.colors⟩ : TrialD), td) else ((⟨T2.counts.set t (wrap64 (z - 1)), T2.colors.set t 1⟩ : TrialD), td ++ [(t : Int)])) := by
            show _ = _
            unfold kidStep
            simp only [show ((t : Int)).toNat = t from by omega, hz, hy, Int.sub_eq_add_neg]
          have HY : Hid (T2.colors.getD t 0 = y) := hy
          have HGK : Hid (w2.heap.size ≤ gk) := hgkB
          have HTJ : Hid (ks[j] = (t : Int)) := ht
          clear HC h1 hcp hmx hz hy ht hgkB
          go_wp2
          refine wp_region_last 16 (by kernel_rfl) (by kernel_rfl) (fun i _ v => RB (gx) ga c gk n kc j t z (wrap64 (z - 1)) i v) (fun _ _ _ _ h _ => h) ?_ ?_
          · intro i o hi ho a X hXX hA hdep
            match i, hi, ho with
            | 0, _, ho =>
              obtain rfl := Option.some.inj ho
              exact opFieldT 0 (by omega) (alike_at hA (t := 7) (by kernel_rfl)) ⟨_, rfl, Below.refl _ _, rfl⟩
            | 1, _, ho =>
              obtain rfl := Option.some.inj ho
              have e0 : a.eval (.tmp 57) = .pointer (some ⟨gx, 0, none⟩) := hdep ⟨0, .data⟩ (by simp) rfl 57 rfl
              exact opLoadI e0 ((X1.later hXX X1.lt).cell 0) ⟨_, rfl, Below.refl _ _, rfl⟩
            | 2, _, ho =>
              obtain rfl := Option.some.inj ho
              exact opMove (alike_at hA (t := 10) (by kernel_rfl)) ⟨_, rfl, Below.refl _ _, rfl⟩
            | 3, _, ho =>
              obtain rfl := Option.some.inj ho
              exact opMove (alike_at hA (t := 11) (by kernel_rfl)) ⟨_, rfl, Below.refl _ _, rfl⟩
            | 4, _, ho =>
              obtain rfl := Option.some.inj ho
              have e2 : a.eval (.tmp 59) = .slice (some ⟨gk, 0, none⟩) n kc := hdep ⟨2, .data⟩ (by simp) rfl 59 rfl
              have e3 : a.eval (.tmp 60) = .int .i64 (j : Int) := hdep ⟨3, .data⟩ (by simp) rfl 60 rfl
              exact opIndexI e2 e3 hlt ⟨_, rfl, Below.refl _ _, rfl⟩
            | 5, _, ho =>
              obtain rfl := Option.some.inj ho
              have e4 : a.eval (.tmp 61) = .pointer (some ⟨gk, j, none⟩) := hdep ⟨4, .data⟩ (by simp) rfl 61 rfl
              exact opLoadInt e4 ((hXX.cell (p := ⟨gk, j, none⟩) hgk).trans hck) ⟨_, rfl, Below.refl _ _, rfl⟩
            | 6, _, ho =>
              obtain rfl := Option.some.inj ho
              exact opFieldT 0 (by omega) (alike_at hA (t := 7) (by kernel_rfl)) ⟨_, rfl, Below.refl _ _, rfl⟩
            | 7, _, ho =>
              obtain rfl := Option.some.inj ho
              have e6 : a.eval (.tmp 63) = .pointer (some ⟨gx, 0, none⟩) := hdep ⟨6, .data⟩ (by simp) rfl 63 rfl
              exact opLoadI e6 ((X1.later hXX X1.lt).cell 0) ⟨_, rfl, Below.refl _ _, rfl⟩
            | 8, _, ho =>
              obtain rfl := Option.some.inj ho
              exact opMove (alike_at hA (t := 10) (by kernel_rfl)) ⟨_, rfl, Below.refl _ _, rfl⟩
            | 9, _, ho =>
              obtain rfl := Option.some.inj ho
              exact opMove (alike_at hA (t := 11) (by kernel_rfl)) ⟨_, rfl, Below.refl _ _, rfl⟩
            | 10, _, ho =>
              obtain rfl := Option.some.inj ho
              have e8 : a.eval (.tmp 65) = .slice (some ⟨gk, 0, none⟩) n kc := hdep ⟨8, .data⟩ (by simp) rfl 65 rfl
              have e9 : a.eval (.tmp 66) = .int .i64 (j : Int) := hdep ⟨9, .data⟩ (by simp) rfl 66 rfl
              exact opIndexI e8 e9 hlt ⟨_, rfl, Below.refl _ _, rfl⟩
            | 11, _, ho =>
              obtain rfl := Option.some.inj ho
              have e10 : a.eval (.tmp 67) = .pointer (some ⟨gk, j, none⟩) := hdep ⟨10, .data⟩ (by simp) rfl 67 rfl
              exact opLoadInt e10 ((hXX.cell (p := ⟨gk, j, none⟩) hgk).trans hck) ⟨_, rfl, Below.refl _ _, rfl⟩
            | 12, _, ho =>
              obtain rfl := Option.some.inj ho
              have e7 : a.eval (.tmp 64) = .slice (some ⟨ga, 0, none⟩) 8 c := hdep ⟨7, .data⟩ (by simp) rfl 64 rfl
              have e11 : a.eval (.tmp 68) = .int .i64 (t : Int) := hdep ⟨11, .data⟩ (by simp) rfl 68 rfl
              exact opIndexI e7 e11 ht8 ⟨_, rfl, Below.refl _ _, rfl⟩
            | 13, _, ho =>
              obtain rfl := Option.some.inj ho
              have e12 : a.eval (.tmp 69) = .pointer (some ⟨ga, t, none⟩) := hdep ⟨12, .data⟩ (by simp) rfl 69 rfl
              exact opLoadInt e12 ((hXX.cell (p := ⟨ga, t, none⟩) hgal).trans ca) ⟨_, rfl, Below.refl _ _, rfl⟩
            | 14, _, ho =>
              obtain rfl := Option.some.inj ho
              have e13 : a.eval (.tmp 70) = .int .i64 z := hdep ⟨13, .data⟩ (by simp) rfl 70 rfl
              exact opSub1 e13 ⟨_, rfl, Below.refl _ _, rfl⟩
            | 15, _, ho =>
              obtain rfl := Option.some.inj ho
              have e1 : a.eval (.tmp 58) = .slice (some ⟨ga, 0, none⟩) 8 c := hdep ⟨1, .data⟩ (by simp) rfl 58 rfl
              have e5 : a.eval (.tmp 62) = .int .i64 (t : Int) := hdep ⟨5, .data⟩ (by simp) rfl 62 rfl
              exact opIndexI e1 e5 ht8 ⟨_, rfl, Below.refl _ _, rfl⟩
            | q + 16, hi, _ => exact absurd hi (by omega)
          · intro o ho a X hXX hA hdep
            obtain rfl := Option.some.inj ho
            have e15 : a.eval (.tmp 72) = .pointer (some ⟨ga, t, none⟩) := hdep ⟨15, .data⟩ (by simp) rfl 72 rfl
            have e14 : a.eval (.tmp 71) = .int .i64 (wrap64 (z - 1)) := hdep ⟨14, .data⟩ (by simp) rfl 71 rfl
            have BX := bi_later HI2.out hXX
            obtain ⟨ca2, fa2, -, -⟩ := bi_cells BX t ht8
            refine opStoreInt e15 e14 ca2 fa2 ?_
            have HI3 : Hid _ := bi_count BX t (wrap64 (z - 1))
            have HK3 : Hid (ownI (X.setCell ⟨ga, t, none⟩ (.int .i64 (wrap64 (z - 1)))) w2.heap.size (.slice (some ⟨gk, 0, none⟩) n kc) ks) := ownI_same (ownI_later HK2.out hXX) (fun g hg => heap_setCell_other _ _ _ _ (by have := (ownI_lt HK2.out g hg).1; have := HI2.out.la; show g ≠ ga; omega))
            obtain ⟨us, hus, rfl⟩ := alike_tmps hA [57, 58, 59, 60, 61, 62, 63, 64, 65, 66, 67, 68, 69, 70, 71, 72] (by kernel_rfl)
            clear hdep hA hus e15 e14 BX ca2 fa2 ho X1 hck hgk ca hgal
            generalize X.setCell ⟨ga, t, none⟩ (.int .i64 (wrap64 (z - 1))) = Y at *
            simp only [List.mapIdx_cons, List.mapIdx_nil, Nat.reduceAdd, List.contains_cons, List.contains_nil, Nat.reduceBEq, Bool.or_false, Bool.or_true, if_true, if_false, Bool.false_eq_true]
            have HCY : Hid (∀ V, Below Y.heap.size Y V → V.cell? ⟨gx, 1, none⟩ = some (.slice (some ⟨gb, 0, none⟩) 8 d) ∧ V.cell? ⟨gk, j, none⟩ = some (.int .i64 (t : Int)) ∧ V.cell? ⟨gb, t, none⟩ = some (.int .i64 y)) := fun V hV => by
              have b1 := bi_later HI3.out hV
              have k1 := ownI_later HK3.out hV
              refine ⟨(HQ.out V b1.oth).2.1.cell 1, ?_, ?_⟩
              · rcases ownI_form k1 with ⟨h1, -⟩ | ⟨gk2, cap2, h1, -, -, -, -, HC⟩
                · cases h1
                · have e1 : gk = gk2 := by simp only [Value.slice.injEq, Option.some.injEq, Addr.mk.injEq] at h1; exact h1.1.1
                  subst e1
                  have h2 := (HC.out j hj2).1
                  rw [HTJ.out] at h2
                  exact h2
              · have := (bi_cells b1 t ht8).2.2.1
                rw [HY.out] at this
                exact this
            have hne2 := LaterW.some_ Y
            have y4 : ∀ V : LaterW Y, V.on.cell? ⟨gx, 1, none⟩ = some (.slice (some ⟨gb, 0, none⟩) 8 d) := fun V => (HCY.out V.on V.bel).1
            have yk : ∀ V : LaterW Y, V.on.cell? ⟨gk, j, none⟩ = some (.int .i64 (t : Int)) := fun V => (HCY.out V.on V.bel).2.1
            have yc : ∀ V : LaterW Y, V.on.cell? ⟨gb, t, none⟩ = some (.int .i64 y) := fun V => (HCY.out V.on V.bel).2.2
            have i1 : (j : Int) < (n : Int) := by omega
            have i2 : (t : Int) < 8 := by omega
            by_cases hy0 : y = 1
            · have hq : (y != 1) = false := by simp [hy0]
              have HNX : Hid ((ks.take (j + 1)).foldl (kidStep (-1) 1) (T', rest) = ((⟨T2.counts.set t (wrap64 (z - 1)), T2.colors⟩ : TrialD), td)) := by show _ = _; rw [HSTEP.out, HKST.out, if_pos hy0]
              clear hy0 HKST HSTEP
              go_wp2
              refine wp_region_later Y (Below.refl _ _) (by kernel_rfl) (by kernel_rfl) ?_
              repeat (go_big_quiet_step (fail))
              refine wpQuiet_nil ?_
              intro V hVe
              have hV : Below Y.heap.size Y V := by obtain ⟨q, hq2⟩ := hVe; rw [hq2]; exact q.bel
              have HI4 : Hid _ := bi_later HI3.out hV
              have HK4 : Hid _ := ownI_later HK3.out hV
              clear hVe y4 yk yc hne2 hV
              go_wp2
              go_roundw
              case rel => exact ⟨j + 1, _, td, qa2, qc2, by go_num, rfl, by omega, HI4, HNX, HK4, HD2⟩
              case measure => simp [intOf]; omega
            · have hq : (y != 1) = true := by simp [hy0]
              have HNX : Hid ((ks.take (j + 1)).foldl (kidStep (-1) 1) (T', rest) = ((⟨T2.counts.set t (wrap64 (z - 1)), T2.colors.set t 1⟩ : TrialD), td ++ [(t : Int)])) := by show _ = _; rw [HSTEP.out, HKST.out, if_neg hy0]
              clear hy0 HKST HSTEP
              go_wp2
              refine wp_region_later Y (Below.refl _ _) (by kernel_rfl) (by kernel_rfl) ?_
              repeat (go_big_quiet_step (fail))
              refine wpQuiet_nil ?_
              intro V hVe
              have hV : Below Y.heap.size Y V := by obtain ⟨q, hq2⟩ := hVe; rw [hq2]; exact q.bel
              have HI4 : Hid _ := bi_later HI3.out hV
              have HK4 : Hid _ := ownI_later HK3.out hV
              obtain ⟨-, hckV, -⟩ := HCY.out V hV
              have hgkV : gk < V.heap.size := (ownI_lt HK4.out gk rfl).2
              have Y1 := (HQ.out V HI4.out.oth).2.1
              clear hVe y4 yk yc hne2 hV
              go_wp2
              refine wp_region_last 7 (by kernel_rfl) (by kernel_rfl) (fun i _ v => RCo (gx) gb d gk n kc j t i v) (fun _ _ _ _ h _ => h) ?_ ?_
              · intro i o hi ho a X hXX hA hdep
                match i, hi, ho with
                | 0, _, ho =>
                  obtain rfl := Option.some.inj ho
                  exact opFieldT 1 (by omega) (alike_at hA (t := 7) (by kernel_rfl)) ⟨_, rfl, Below.refl _ _, rfl⟩
                | 1, _, ho =>
                  obtain rfl := Option.some.inj ho
                  have e0 : a.eval (.tmp 82) = .pointer (some ⟨gx, 1, none⟩) := hdep ⟨0, .data⟩ (by simp) rfl 82 rfl
                  exact opLoadI e0 ((Y1.later hXX Y1.lt).cell 1) ⟨_, rfl, Below.refl _ _, rfl⟩
                | 2, _, ho =>
                  obtain rfl := Option.some.inj ho
                  exact opMove (alike_at hA (t := 10) (by kernel_rfl)) ⟨_, rfl, Below.refl _ _, rfl⟩
                | 3, _, ho =>
                  obtain rfl := Option.some.inj ho
                  exact opMove (alike_at hA (t := 11) (by kernel_rfl)) ⟨_, rfl, Below.refl _ _, rfl⟩
                | 4, _, ho =>
                  obtain rfl := Option.some.inj ho
                  have e2 : a.eval (.tmp 84) = .slice (some ⟨gk, 0, none⟩) n kc := hdep ⟨2, .data⟩ (by simp) rfl 84 rfl
                  have e3 : a.eval (.tmp 85) = .int .i64 (j : Int) := hdep ⟨3, .data⟩ (by simp) rfl 85 rfl
                  exact opIndexI e2 e3 hlt ⟨_, rfl, Below.refl _ _, rfl⟩
                | 5, _, ho =>
                  obtain rfl := Option.some.inj ho
                  have e4 : a.eval (.tmp 86) = .pointer (some ⟨gk, j, none⟩) := hdep ⟨4, .data⟩ (by simp) rfl 86 rfl
                  exact opLoadInt e4 ((hXX.cell (p := ⟨gk, j, none⟩) hgkV).trans hckV) ⟨_, rfl, Below.refl _ _, rfl⟩
                | 6, _, ho =>
                  obtain rfl := Option.some.inj ho
                  have e1 : a.eval (.tmp 83) = .slice (some ⟨gb, 0, none⟩) 8 d := hdep ⟨1, .data⟩ (by simp) rfl 83 rfl
                  have e5 : a.eval (.tmp 87) = .int .i64 (t : Int) := hdep ⟨5, .data⟩ (by simp) rfl 87 rfl
                  exact opIndexI e1 e5 ht8 ⟨_, rfl, Below.refl _ _, rfl⟩
              · intro o ho a X hXX hA hdep
                obtain rfl := Option.some.inj ho
                have e6 : a.eval (.tmp 88) = .pointer (some ⟨gb, t, none⟩) := hdep ⟨6, .data⟩ (by simp) rfl 88 rfl
                have BX := bi_later HI4.out hXX
                obtain ⟨-, -, cb2, fb2⟩ := bi_cells BX t ht8
                refine opStoreC e6 cb2 fb2 ?_
                have HI5 : Hid _ := bi_color BX t 1
                have HK5 : Hid (ownI (X.setCell ⟨gb, t, none⟩ (.int .i64 1)) w2.heap.size (.slice (some ⟨gk, 0, none⟩) n kc) ks) := ownI_same (ownI_later HK4.out hXX) (fun g hg => heap_setCell_other _ _ _ _ (by have := (ownI_lt HK4.out g hg).1; have := HI2.out.lb; show g ≠ gb; omega))
                obtain ⟨us, hus, rfl⟩ := alike_tmps hA [82, 83, 84, 85, 86, 87, 88] (by kernel_rfl)
                clear hdep hA hus e6 BX cb2 fb2 ho Y1 hckV hgkV
                generalize X.setCell ⟨gb, t, none⟩ (.int .i64 1) = Y2 at *
                simp only [List.mapIdx_cons, List.mapIdx_nil, Nat.reduceAdd, List.contains_cons, List.contains_nil, Nat.reduceBEq, Bool.or_false, Bool.or_true, if_true, if_false, Bool.false_eq_true]
                have hck5 : Y2.cell? ⟨gk, j, none⟩ = some (.int .i64 (t : Int)) := by
                  rcases ownI_form HK5.out with ⟨h1, -⟩ | ⟨gk2, cap2, h1, -, -, -, -, HC⟩
                  · cases h1
                  · have e1 : gk = gk2 := by simp only [Value.slice.injEq, Option.some.injEq, Addr.mk.injEq] at h1; exact h1.1.1
                    subst e1
                    have h2 := (HC.out j hj2).1
                    rw [HTJ.out] at h2
                    exact h2
                obtain ⟨U, hU⟩ : ∃ U, U = Y2.alloc (.cells #[.int .i64 (t : Int)] 3) := ⟨_, rfl⟩
                have bU : Below Y2.heap.size Y2 U := by rw [hU]; exact (Below.refl _ _).alloc (Nat.le_refl _) _
                have HIU : Hid _ := bi_later HI5.out bU
                have HKU : Hid _ := ownI_later HK5.out bU
                have hUc : U.cell? ⟨Y2.heap.size, 0, none⟩ = some (.int .i64 (t : Int)) := by rw [hU, World.cell?_alloc_mark]; rfl
                have HUB : Hid (w2.heap.size ≤ U.heap.size) := HIU.out.bel.size
                clear bU
                go_wp2_with (at_builtin; rw [← hU]; clear hU; refine wpList_appendL rfl _ _ rfl w2.heap.size _ _ rfl HIU.out.q ⟨Y2.heap.size, 0, none⟩ (t : Int) rfl hUc ?hlen HUB.out ?_)
                case hlen => have := HML.out; omega
                intro v6 X6 O6 s6 H6 A6 B6
                obtain ⟨qa6, qc6, rfl, -⟩ := rdI_own O6
                have HI6 : Hid _ := bi_push HIU.out H6.out B6.out O6
                have HK6 : Hid (ownI X6 w2.heap.size (.slice (some ⟨gk, 0, none⟩) n kc) ks) := ownI_same HKU.out (fun g hg => H6.out g (ownI_lt HKU.out g hg).2 (fun e => HD2.out g e hg))
                have HD6 : Hid (Dif2 (.slice qa6 (td ++ [(t : Int)]).length qc6) (.slice (some ⟨gk, 0, none⟩) n kc)) := fun g h1 h2 => by
                  rcases A6.out with e | e
                  · exact HD2.out g (by rw [← e]; exact h1) h2
                  · rw [e] at h1
                    injection h1 with h1
                    have := (ownI_lt HKU.out g h2).2
                    omega
                clear O6 H6 A6 B6 hck5 hUc
                go_wp2
                go_roundw
                case rel => exact ⟨j + 1, _, td ++ [(t : Int)], qa6, qc6, by go_num, by simp, by omega, HI6, HNX, HK6, HD6⟩
                case measure => simp [intOf]; omega
        · have HALL : Hid (ks.foldl (kidStep (-1) 1) (T', rest) = (T2, td)) := by
            have h1 := HFO.out
            rw [List.take_of_length_le (by have := Hn.out; omega)] at h1
            exact h1
          have HT2 : Hid (Slots td ∧ mu 1 (T2, td) < mu 1 (T', rest ++ [(s : Int)]) ∧ R = spreadAll (-1) 1 H T2 td) := by
            have h1 := HRO.out
            have h2 := HSN.out
            rw [HALL.out] at h1 h2
            exact ⟨h1.2.1, h1.2.2, h2⟩
          have HMS2 : Hid (othersAt wr gb 1 = others 1 T2.colors) := othersAt_is HI2.out 1
          have hge : n ≤ j := by omega
          clear hlt
          go_wp2
          go_roundw
          case rel => exact ⟨T2, td, qa2, qc2, rfl, HI2, HT2.out.1, by have := HT2.out.2.1; have := HMU.out; show _ ≤ _; omega, HT2.out.2.2⟩
          case measure =>
            have h1 := HT2.out.2.1
            have h2 := HMS2.out
            have h3 := HMS.out
            have h4 := HLR.out
            simp only [mu, List.length_append, List.length_singleton] at h1
            show lenV (.slice qa2 td.length qc2) + 2 * othersAt _ gb 1 < lenV (.slice (some ⟨gq, 0, none⟩) (m + 1) qc) + 2 * othersAt _ gb 1
            simp only [lenV]
            omega


end Go.Proofs.Ytjhceoejblmihaa
