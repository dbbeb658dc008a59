/- Texts of this claim, joined: part 6 of 6. -/
import Derived.Test.YtnjplfofcjonhaaJCollect5
import Derived.Laws.AppendOwnNone
import Derived.Deep.RegionHeld
namespace Go.Proofs.Ytnjplfofcjonhaa
open Go.RowKit
set_option linter.unusedVariables false
set_option maxRecDepth 100000
set_option maxHeartbeats 8000000 in
theorem sGray_yes (v u : Value) (H : HeapD) (T : TrialD) (k : Nat) (w : World) (h : RdH w v H) (ht : RdT w u T) (hs : SmallH H) (hst : SmallT T) (hf : ∀ o ∈ H.objs, ∀ z ∈ o.field, in64 z) (hok : OkT H T (k : Int)) (hno : T.colors.getD k 0 ≠ 1) :
    Calls Try.prog 61 #[v, u, .int .i64 (k : Int)] w fun e w' => ∃ s : TSh, e = .returned s.v ∧ TM w' w.heap.size s (grayT H T (k : Int)) ∧ Below w.heap.size w w' := by
  have HRH : Hid (∀ X, Below w.heap.size w X → RdH X v H) := fun X hX => rdH_later h hX
  have HRT : Hid (∀ X, Below w.heap.size w X → RdT X u T) := fun X hX => rdT_later ht hX
  obtain ⟨ao, co, aw, cw, ab, cb, sa, sc, rfl, -⟩ := h
  obtain ⟨xa, xc, ya, yc, rfl, -, ri⟩ := ht
  obtain ⟨W, hW⟩ : ∃ W, W = ((w.alloc (.cells #[.slice ao H.objs.length co, .slice aw H.weaks.length cw, .slice ab H.buffer.length cb, .slice sa H.sites.length sc] 29)).alloc (.cells #[.slice xa T.counts.length xc, .slice ya T.colors.length yc] 77)).alloc (.cells #[.slice none 0 0, .slice none 0 0] 77) := ⟨_, rfl⟩
  have BW : Below w.heap.size w W := by rw [hW]; exact (((Below.refl _ _).alloc (Nat.le_refl _) _).alloc (by simp) _).alloc (by simp; omega) _
  have hWs : W.heap.size = w.heap.size + 3 := by rw [hW]; simp
  have q0 : Four W w.heap.size (.slice ao H.objs.length co) (.slice aw H.weaks.length cw) (.slice ab H.buffer.length cb) (.slice sa H.sites.length sc) := by
    have f1 := Four.new w (.slice ao H.objs.length co) (.slice aw H.weaks.length cw) (.slice ab H.buffer.length cb) (.slice sa H.sites.length sc)
    exact Eq.trans (by rw [hW, Below.heap_alloc _ _ _ (by simp; omega), Below.heap_alloc _ _ _ (by simp)]) f1
  have q1 : Two W (w.heap.size + 1) (.slice xa T.counts.length xc) (.slice ya T.colors.length yc) := by
    have f1 := Two.new (w.alloc (.cells #[.slice ao H.objs.length co, .slice aw H.weaks.length cw, .slice ab H.buffer.length cb, .slice sa H.sites.length sc] 29)) (.slice xa T.counts.length xc) (.slice ya T.colors.length yc)
    rw [show (w.alloc (.cells #[.slice ao H.objs.length co, .slice aw H.weaks.length cw, .slice ab H.buffer.length cb, .slice sa H.sites.length sc] 29)).heap.size = w.heap.size + 1 from by simp] at f1
    exact Eq.trans (by rw [hW, Below.heap_alloc _ _ _ (by simp)]) f1
  have q2 : Two W (w.heap.size + 2) (.slice none 0 0) (.slice none 0 0) := by
    have f1 := Two.new ((w.alloc (.cells #[.slice ao H.objs.length co, .slice aw H.weaks.length cw, .slice ab H.buffer.length cb, .slice sa H.sites.length sc] 29)).alloc (.cells #[.slice xa T.counts.length xc, .slice ya T.colors.length yc] 77)) (.slice none 0 0) (.slice none 0 0)
    rw [show ((w.alloc (.cells #[.slice ao H.objs.length co, .slice aw H.weaks.length cw, .slice ab H.buffer.length cb, .slice sa H.sites.length sc] 29)).alloc (.cells #[.slice xa T.counts.length xc, .slice ya T.colors.length yc] 77)).heap.size = w.heap.size + 2 from by simp] at f1
    rw [hW]
    exact f1
  have HQ : Hid (∀ X, Below W.heap.size W X → Four X w.heap.size (.slice ao H.objs.length co) (.slice aw H.weaks.length cw) (.slice ab H.buffer.length cb) (.slice sa H.sites.length sc) ∧ Two X (w.heap.size + 1) (.slice xa T.counts.length xc) (.slice ya T.colors.length yc) ∧ Two X (w.heap.size + 2) (.slice none 0 0) (.slice none 0 0)) :=
    fun X hX => ⟨q0.same (hX.block _ (by omega)), q1.same (hX.block _ (by omega)), q2.same (hX.block _ (by omega))⟩
  have HBW : Hid (Below w.heap.size w W) := BW
  have HWs : Hid (W.heap.size = w.heap.size + 3) := hWs
  have CC : Hid (∀ _ : Unit, _) := fun (_ : Unit) => sCopyT_calls _ T W (HRT.out W BW) hst
  obtain ⟨b, hb⟩ : ∃ b : Bool, b = true ↔ OkT H T (k : Int) := by
    by_cases h : OkT H T (k : Int)
    · exact ⟨true, by simp [h]⟩
    · exact ⟨false, by simp [h]⟩
  have CO : Hid (∀ X, Below w.heap.size w X → _) := fun X hX => sOkT_calls _ _ H T (k : Int) X (HRH.out X hX) (HRT.out X hX) hs hst b hb
  have HRI : Hid (∀ X, Below w.heap.size w X → RdI X ya T.colors) := fun X hX => rdI_later ri hX
  have HBO : Hid (b = true ↔ OkT H T (k : Int)) := hb
  have HS : Hid (SmallH H) := hs
  have HF : Hid (∀ o ∈ H.objs, ∀ z ∈ o.field, in64 z) := hf
  obtain rfl : b = true := hb.2 hok
  have HOK : Hid (OkT H T (k : Int)) := hok
  have HNO : Hid (T.colors.getD k 0 ≠ 1) := hno
  have HR : Hid (∀ X, Below w.heap.size w X → RdH X _ H) := HRH.out
  have hlc := hst.colors
  clear q0 q1 q2 BW hWs HRH HRT hs hst hno ri hb hok hf
  go_enter Try.func61, Try.ntmps61
  go_wp2_with fail
  rw [← hW]
  clear hW
  refine (CC.out ()).mono ?_
  rintro e w1 ⟨s, rfl, M1, b1⟩
  obtain ⟨V, hV⟩ : ∃ V, V = w1.alloc (.cells #[.slice s.a s.n s.c, .slice s.b s.m s.d] 77) := ⟨_, rfl⟩
  have BV : Below w1.heap.size w1 V := by rw [hV]; exact (Below.refl _ _).alloc (Nat.le_refl _) _
  have HTV : Hid (TM V W.heap.size s T) := M1.later BV
  have HXV : Hid (Two V w1.heap.size (.slice s.a s.n s.c) (.slice s.b s.m s.d)) := by rw [hV]; exact Two.new w1 _ _
  have HBV : Hid (Below W.heap.size W V) := b1.trans (BV.mono b1.size)
  have HW1 : Hid (W.heap.size ≤ w1.heap.size) := b1.size
  have HVV : Hid (Below w.heap.size w V) := HBW.out.trans (HBV.out.mono HBW.out.size)
  obtain ⟨F1, X1, X2⟩ := HQ.out w1 b1
  have f0 : w1.cell? ⟨w.heap.size, 0, none⟩ = some (.slice ao H.objs.length co) := F1.cell 0
  have f1 : w1.cell? ⟨w.heap.size, 1, none⟩ = some (.slice aw H.weaks.length cw) := F1.cell 1
  have f2 : w1.cell? ⟨w.heap.size, 2, none⟩ = some (.slice ab H.buffer.length cb) := F1.cell 2
  have f3 : w1.cell? ⟨w.heap.size, 3, none⟩ = some (.slice sa H.sites.length sc) := F1.cell 3
  have t0 : w1.cell? ⟨w.heap.size + 1, 0, none⟩ = some (.slice xa T.counts.length xc) := X1.cell 0
  have t1 : w1.cell? ⟨w.heap.size + 1, 1, none⟩ = some (.slice ya T.colors.length yc) := X1.cell 1
  have g0 : w.heap.size < w1.heap.size := F1.lt
  have g1 : w.heap.size + 1 < w1.heap.size := X1.lt
  have n0 : ¬ w.heap.size = w1.heap.size := by omega
  have n1 : ¬ w.heap.size + 1 = w1.heap.size := by omega
  have HC2 : Hid (Calls _ _ _ V _) := CO.out V HVV.out
  rw [show s.v = .agg #[.slice s.a s.n s.c, .slice s.b s.m s.d] from rfl]
  clear CC CO M1 b1 BV F1 X1 X2
  go_wp2_with fail
  rw [← hV]
  clear hV
  refine HC2.out.mono ?_
  rintro e w2 ⟨rfl, b2⟩
  have HB2 : Hid (Below W.heap.size W w2) := HBV.out.trans (b2.mono HBV.out.size)
  have HT2 : Hid (TM w2 W.heap.size s T) := HTV.out.later b2
  have X2 : Two w2 w1.heap.size (.slice s.a s.n s.c) (.slice s.b s.m s.d) := HXV.out.later b2 HXV.out.lt
  obtain ⟨-, T1, R1⟩ := HQ.out w2 HB2.out
  have x0 : w2.cell? ⟨w1.heap.size, 0, none⟩ = some (.slice s.a s.n s.c) := X2.cell 0
  have x1 : w2.cell? ⟨w1.heap.size, 1, none⟩ = some (.slice s.b s.m s.d) := X2.cell 1
  have u1 : w2.cell? ⟨w.heap.size + 1, 1, none⟩ = some (.slice ya T.colors.length yc) := T1.cell 1
  have r0 : w2.cell? ⟨w.heap.size + 2, 0, none⟩ = some (.slice none 0 0) := R1.cell 0
  have r1 : w2.cell? ⟨w.heap.size + 2, 1, none⟩ = some (.slice none 0 0) := R1.cell 1
  have z0 := R1.frozen 0
  have z1 := R1.frozen 1
  have HBs : Hid (W.heap.size = w.heap.size + 3) := HWs.out
  have H8 : Hid (H.objs.length = 8) := HOK.out.objs
  have hk : k < 8 := by have := HOK.out.hi; omega
  obtain ⟨sn, sm⟩ := HT2.out.lens
  rw [HOK.out.counts] at sn
  rw [HOK.out.colors] at sm
  have form : ∀ {a : Option Addr} {c : Nat} {zs : List Int}, ownI w2 W.heap.size (.slice a 8 c) zs → ∃ g, a = some ⟨g, 0, none⟩ := fun ho => by
    rcases ownI_form ho with ⟨h1, -⟩ | ⟨g, cap, h1, -⟩
    · simp at h1
    · simp only [Value.slice.injEq] at h1; exact ⟨g, h1.1⟩
  obtain ⟨sa', sn', c, sb', sm', d⟩ := s
  simp only at sn sm
  subst sn sm
  obtain ⟨ga, rfl⟩ := form HT2.out.x
  obtain ⟨gb, rfl⟩ := form HT2.out.y
  have hne : ga ≠ gb := fun e => HT2.out.dif ga rfl (by show some gb = some ga; rw [e])
  have la : ga < w2.heap.size := (ownI_lt HT2.out.x ga rfl).2
  have lb : gb < w2.heap.size := (ownI_lt HT2.out.y gb rfl).2
  have lga : W.heap.size ≤ ga := (ownI_lt HT2.out.x ga rfl).1
  have lgb : W.heap.size ≤ gb := (ownI_lt HT2.out.y gb rfl).1
  have b1 : BI w2 w2 W.heap.size ga gb c d T (.slice none 0 0) [] := ⟨Below.refl _ _, fun _ _ _ _ => rfl, HT2.out.x, HT2.out.y, hne, la, lb, HB2.out.size, ownI_nil _ _⟩
  obtain ⟨-, -, cb0, fb0⟩ := bi_cells b1 k hk
  obtain ⟨-, T1', -⟩ := HQ.out w2 HB2.out
  have hgx : w1.heap.size ≠ ga ∧ w1.heap.size ≠ gb := by
    have xk : w2.heap[w1.heap.size]? = some (.cells #[.slice (some ⟨ga, 0, none⟩) 8 c, .slice (some ⟨gb, 0, none⟩) 8 d] 77 (0, 0)) := X2
    obtain ⟨cu1, k1⟩ := row_kind HT2.out.x ga rfl
    obtain ⟨cu2, k2⟩ := row_kind HT2.out.y gb rfl
    exact ⟨fun e => kind_ne xk k1 (by decide) e, fun e => kind_ne xk k2 (by decide) e⟩
  have HQ2 : Hid (∀ X, (∀ g, g < w2.heap.size → g ≠ ga → g ≠ gb → X.heap[g]? = w2.heap[g]?) → Four X w.heap.size (.slice ao H.objs.length co) (.slice aw H.weaks.length cw) (.slice ab H.buffer.length cb) (.slice sa H.sites.length sc) ∧ Two X w1.heap.size (.slice (some ⟨ga, 0, none⟩) 8 c) (.slice (some ⟨gb, 0, none⟩) 8 d) ∧ Two X (w.heap.size + 2) (.slice none 0 0) (.slice none 0 0)) := by
    have e3 := HBs.out
    have e4 := HB2.out.size
    obtain ⟨p0, -, p2⟩ := HQ.out w2 HB2.out
    exact fun X hX => ⟨p0.same (hX _ (by omega) (by omega) (by omega)), X2.same (hX _ X2.lt hgx.1 hgx.2), p2.same (hX _ (by omega) (by omega) (by omega))⟩
  have HB0 : Hid (BI w2 ((w2.setCell ⟨gb, k, none⟩ (.int .i64 1)).alloc (.cells #[.int .i64 (k : Int)] 3)) W.heap.size ga gb c d ⟨T.counts, T.colors.set k 1⟩ (.slice (some ⟨w2.heap.size, 0, none⟩) 1 1) [(k : Int)]) := by
    have b2 := bi_color b1 k 1
    have hz : (w2.setCell ⟨gb, k, none⟩ (.int .i64 1)).heap.size = w2.heap.size := by simp [World.setCell]
    have b3 := bi_later b2 ((Below.refl _ _).alloc (Nat.le_refl _) (.cells #[.int .i64 (k : Int)] 3))
    have b4 := ownI_one (w2.setCell ⟨gb, k, none⟩ (.int .i64 1)) w2.heap.size (k : Int) (by omega)
    rw [hz] at b4
    exact ⟨b3.bel, b3.oth, b3.x, b3.y, b3.ne, b3.la, b3.lb, b3.hB, b4⟩
  have HSL : Hid (Slots [(k : Int)]) := fun z hz => by rw [List.mem_singleton.1 hz]; omega
  have HRR : Hid (grayT H T (k : Int) = spreadAll (-1) 1 H ⟨T.counts, T.colors.set k 1⟩ [(k : Int)]) := by show _ = _; unfold grayT; rw [show ((k : Int)).toNat = k from by omega]
  have HM0 : Hid (mu 1 ((⟨T.counts, T.colors.set k 1⟩ : TrialD), [(k : Int)]) ≤ 17) := by
    have h1 := others_le 1 (T.colors.set k 1)
    rw [List.length_set, HOK.out.colors] at h1
    show 2 * others 1 (T.colors.set k 1) + 1 ≤ 17
    omega
  have HBW2 : Hid (Below w.heap.size w w2) := HBW.out.trans (HB2.out.mono HBW.out.size)
  obtain ⟨gc, off, hya, -, hcc⟩ := HRI.out w2 HBW2.out k (by rw [HOK.out.colors]; exact hk)
  obtain ⟨y0, hy0⟩ : ∃ y0, T.colors.getD k 0 = y0 := ⟨_, rfl⟩
  have hcc2 : w2.cell? ⟨gc, off + k, none⟩ = some (.int .i64 y0) := by
    rw [← hy0, List.getD_eq_getElem?_getD, List.getElem?_eq_getElem (by rw [HOK.out.colors]; exact hk)]
    exact hcc
  have hq0 : (y0 == 1) = false := by rw [← hy0]; simpa using HNO.out
  have h8c := HOK.out.colors
  have h8o := HOK.out.objs
  subst hya
  rw [h8c] at u1
  rw [h8o] at HQ2 HR
  rw [h8c, h8o]
  clear hcc hy0
  clear HQ HBW
  have HQ := HQ2
  have HBW := HBW2
  obtain ⟨R, hRG⟩ : ∃ R, grayT H T (k : Int) = R := ⟨_, rfl⟩
  have HRG : Hid (grayT H T (k : Int) = R) := hRG
  rw [hRG] at HRR
  clear hRG
  obtain ⟨gx, hgx0⟩ : ∃ gx, w1.heap.size = gx := ⟨_, rfl⟩
  rw [hgx0] at HQ x0 x1 ⊢
  obtain ⟨B, hBB⟩ : ∃ B, W.heap.size = B := ⟨_, rfl⟩
  rw [hBB] at HB0 HBs
  clear f0 f1 f2 f3 t0 t1 g0 g1 n0 n1 T1 R1 X2 b2 HQ2 HBW2 T1' hgx b1 form HT2 HTV HXV HC2 hgx0 h8c h8o HRI la lb lga lgb hne HBV HW1 HVV HWs hBB HB2
  go_wp2
  go_loopw [8] (fun vq wr => ∃ (T' : TrialD) (todo : List Int) (qa : Option Addr) (qc : Nat), vq = .slice qa todo.length qc ∧ Hid (BI w2 wr B ga gb c d T' vq todo) ∧ Hid (Slots todo) ∧ Hid (mu 1 (T', todo) ≤ 17) ∧ Hid (R = spreadAll (-1) 1 H T' todo)) (fun vq wr => lenV vq + 2 * othersAt wr gb 1)
  case atStart => exact ⟨_, [(k : Int)], _, 1, rfl, HB0, HSL, HM0, HRR⟩
  case round =>
    obtain ⟨T', todo, qa, qc, rfl, HI, HT, HMU, HRS⟩ := hrel
    obtain ⟨F0, X1, X2⟩ := HQ.out wr HI.out.oth
    rcases List.eq_nil_or_concat todo with rfl | ⟨rest, kz, rfl⟩
    · have HE : Hid (R = T') := by show _ = _; rw [HRS.out, spreadAll_nil]
      have x0 : wr.cell? ⟨gx, 0, none⟩ = some (.slice (some ⟨ga, 0, none⟩) 8 c) := X1.cell 0
      have x1 : wr.cell? ⟨gx, 1, none⟩ = some (.slice (some ⟨gb, 0, none⟩) 8 d) := X1.cell 1
      have r0 : wr.cell? ⟨w.heap.size + 2, 0, none⟩ = some (.slice none 0 0) := X2.cell 0
      have r1 : wr.cell? ⟨w.heap.size + 2, 1, none⟩ = some (.slice none 0 0) := X2.cell 1
      have z0 := X2.frozen 0
      have z1 := X2.frozen 1
      have HFIN : Hid (TM (setTwo wr (w.heap.size + 2) (.slice (some ⟨ga, 0, none⟩) 8 c) (.slice (some ⟨gb, 0, none⟩) 8 d)) w.heap.size ⟨some ⟨ga, 0, none⟩, 8, c, some ⟨gb, 0, none⟩, 8, d⟩ R ∧ Below w.heap.size w (setTwo wr (w.heap.size + 2) (.slice (some ⟨ga, 0, none⟩) 8 c) (.slice (some ⟨gb, 0, none⟩) 8 d))) := by
        have e3 := HBs.out
        rw [HE.out]
        refine ⟨⟨ownI_mono (ownI_same HI.out.x (fun g hg => setTwo_other _ _ _ _ g (by have := (ownI_lt HI.out.x g hg).1; omega))) (by omega), ownI_mono (ownI_same HI.out.y (fun g hg => setTwo_other _ _ _ _ g (by have := (ownI_lt HI.out.y g hg).1; omega))) (by omega), fun g h1 h2 => ?_⟩, ?_⟩
        · have e1 : ga = g := by simpa [TSh.x, Value.ownBlock] using h1
          have e2 : gb = g := by simpa [TSh.y, Value.ownBlock] using h2
          exact HI.out.ne (by omega)
        · unfold setTwo
          exact ((HBW.out.trans (HI.out.bel.mono (by omega))).setCell (by simp) _).setCell (by simp) _
      clear F0 X1 X2 HI HRS
      go_wp2
      exact bodyPost_ret (v := .agg #[.slice (some ⟨ga, 0, none⟩) 8 c, .slice (some ⟨gb, 0, none⟩) 8 d]) (by simp [results, Try.results61, go_sem, *]) rfl ⟨⟨some ⟨ga, 0, none⟩, 8, c, some ⟨gb, 0, none⟩, 8, d⟩, rfl, by rw [HRG.out]; exact HFIN.out⟩
    · rw [List.concat_eq_append] at *
      obtain ⟨m, hm⟩ : ∃ m, rest.length = m := ⟨_, rfl⟩
      have hl : (rest ++ [kz]).length = m + 1 := by simp [hm]
      rw [hl] at HI ⊢
      obtain ⟨s, rfl⟩ : ∃ s : Nat, kz = (s : Int) := ⟨kz.toNat, by have := HT.out kz (by simp); omega⟩
      have hs8 : s < 8 := by have := HT.out (s : Int) (by simp); omega
      rcases ownI_form HI.out.q with ⟨h1, -⟩ | ⟨gq, cap, h1, hgq, hgl, hcap, hmax, HC⟩
      · simp at h1
      have e1 : qa = some ⟨gq, 0, none⟩ ∧ qc = cap := by simp only [Value.slice.injEq] at h1; exact ⟨h1.1, h1.2.2⟩
      obtain ⟨rfl, rfl⟩ := e1
      have hcell : wr.cell? ⟨gq, m, none⟩ = some (.int .i64 (s : Int)) := by
        have h2 := (HC.out m (by omega)).1
        rw [List.getElem_append_right (by omega)] at h2
        simpa using h2
      rw [hl] at hcap
      have hm17 : m ≤ 17 := by have := HMU.out; simp only [mu] at this; omega
      have HPOP : Hid (BI w2 wr B ga gb c d T' (.slice (some ⟨gq, 0, none⟩) m qc) rest) := bi_pop HI.out
      have hsl : s < H.objs.length := by have := H8.out; omega
      have CK : Hid (∀ _ : Unit, _) := fun (_ : Unit) => sKids_calls _ H s wr (HR.out wr (HBW.out.trans (HI.out.bel.mono (by have := HBs.out; omega)))) HS.out hsl (HF.out _ (List.getElem_mem hsl))
      have HKS : Hid (kidsOf H (s : Int) = kidL H H.objs[s].field) := kidsOf_at H s hsl
      have HSN : Hid (R = spreadAll (-1) 1 H (roundS (-1) 1 (kidsOf H) T' rest (s : Int)).1 (roundS (-1) 1 (kidsOf H) T' rest (s : Int)).2) := by show _ = _; rw [HRS.out, spreadAll_snoc (-1) 1 H T' rest (s : Int) HI.out.eight HT.out]
      have HRO : Hid _ := round_ok (-1) 1 (kidsOf H) (kidsOf_slots H) T' rest (s : Int) HI.out.eight HT.out
      have HKSL : Hid (Slots (kidL H H.objs[s].field)) := kidL_slots H _
      have HMS : Hid (othersAt wr gb 1 = others 1 T'.colors) := othersAt_is HI.out 1
      have HRSL : Hid (Slots rest) := fun z hz => HT.out z (by simp [hz])
      have HE8 : Hid (Eight T') := HI.out.eight
      unfold roundS at HSN HRO
      rw [HKS.out] at HSN HRO
      have hkl := Nat.le_trans (kidL_le H H.objs[s].field) (HS.out.fields _ (List.getElem_mem hsl))
      generalize kidL H H.objs[s].field = ks at *
      have f0 : wr.cell? ⟨w.heap.size, 0, none⟩ = some (.slice ao 8 co) := F0.cell 0
      have f1 : wr.cell? ⟨w.heap.size, 1, none⟩ = some (.slice aw H.weaks.length cw) := F0.cell 1
      have f2 : wr.cell? ⟨w.heap.size, 2, none⟩ = some (.slice ab H.buffer.length cb) := F0.cell 2
      have f3 : wr.cell? ⟨w.heap.size, 3, none⟩ = some (.slice sa H.sites.length sc) := F0.cell 3
      have HGQ : Hid (gq < wr.heap.size) := hgl
      have HWB : Hid (w2.heap.size ≤ wr.heap.size) := HI.out.bel.size
      have hmc : (m : Int) ≤ (qc : Int) := by omega
      have hb1 : decide ((0 : Int) < (m : Int) + 1) = true := decide_eq_true (by omega)
      clear F0 X1 X2 HI HRS HC hgl hgq hmax h1 hl hm HT HKS hsl
      go_wp2_with fail
      refine (CK.out ()).mono ?_
      rintro e w1 ⟨vk, rfl, O1, b1⟩
      obtain ⟨ka, kc, rfl, -⟩ := rdI_own O1
      have HI1 : Hid (BI w2 w1 B ga gb c d T' (.slice (some ⟨gq, 0, none⟩) m qc) rest) := bi_later HPOP.out b1
      have HK1 : Hid (ownI w1 w2.heap.size (.slice ka ks.length kc) ks) := ownI_mono O1 HWB.out
      have HD1 : Hid (Dif2 (.slice (some ⟨gq, 0, none⟩) m qc) (.slice ka ks.length kc)) := fun g h1 h2 => by
        have e1 : gq = g := by simpa [Value.ownBlock] using h1
        have e2 := (ownI_lt O1 g h2).1
        have e3 := HGQ.out
        omega
      have HM1 : Hid (mu 1 (T', rest) ≤ 17) := by
        have h1 := HMU.out
        simp only [mu, List.length_append, List.length_singleton] at h1
        show 2 * others 1 T'.colors + rest.length ≤ 17
        omega
      have HLR : Hid (rest.length = m) := own_len HI1.out.q ▸ rfl
      clear O1 b1 CK HPOP f0 f1 f2 f3 hcell
      obtain ⟨n, hn⟩ : ∃ n, ks.length = n := ⟨_, rfl⟩
      have Hn : Hid (ks.length = n) := hn
      rw [hn] at HK1 HD1 hkl ⊢
      clear hn
      go_wp2
      go_loopw [8, 11] (fun vq i X => ∃ (j : Nat) (T2 : TrialD) (td : List Int) (qa2 : Option Addr) (qc2 : Nat), i = .int .i64 (j : Int) ∧ vq = .slice qa2 td.length qc2 ∧ j ≤ n ∧ Hid (BI w2 X B ga gb c d T2 vq td) ∧ Hid ((ks.take j).foldl (kidStep (-1) 1) (T', rest) = (T2, td)) ∧ Hid (ownI X w2.heap.size (.slice ka n kc) ks) ∧ Hid (Dif2 vq (.slice ka n kc))) (fun _ i _ => n - (intOf i).toNat)
      case atStart => exact ⟨0, T', rest, _, qc, rfl, by rw [HLR.out], by omega, HI1, rfl, HK1, HD1⟩
      case round =>
        obtain ⟨j, T2, td, qa2, qc2, rfl, rfl, hjn, HI2, HFO, HK2, HD2⟩ := hrel
        by_cases hlt : j < n
        · have hj2 : j < ks.length := by have := Hn.out; omega
          obtain ⟨t, ht⟩ : ∃ t : Nat, ks[j] = (t : Int) := ⟨ks[j].toNat, by have := HKSL.out _ (List.getElem_mem hj2); omega⟩
          have ht8 : t < 8 := by have := HKSL.out _ (List.getElem_mem hj2); omega
          have HML : Hid (td.length ≤ 17) := by
            have h1 := (kids_ok (-1) 1 (ks.take j) (T', rest) HE8.out HRSL.out (fun z hz => HKSL.out z (List.mem_of_mem_take hz))).2.2
            rw [HFO.out] at h1
            have h2 := HM1.out
            simp only [mu] at h1 h2
            show _ ≤ _
            omega
          have HSTEP : Hid ((ks.take (j + 1)).foldl (kidStep (-1) 1) (T', rest) = kidStep (-1) 1 (T2, td) (t : Int)) := by
            show _ = _
            rw [List.take_succ_eq_append_getElem hj2, List.foldl_append, HFO.out, ht]; rfl
          rcases ownI_form HK2.out with ⟨h1, -⟩ | ⟨gk, cap, h1, hgkB, hgk, hcp, hmx, HC⟩
          · simp only [Value.slice.injEq] at h1; omega
          obtain ⟨rfl, rfl⟩ : ka = some ⟨gk, 0, none⟩ ∧ kc = cap := by simp only [Value.slice.injEq] at h1; exact ⟨h1.1, h1.2.2⟩
          have hck : wr.cell? ⟨gk, j, none⟩ = some (.int .i64 (t : Int)) := by
            have h2 := (HC.out j hj2).1
            rw [ht] at h2
            exact h2
          obtain ⟨ca, -, -, -⟩ := bi_cells HI2.out t ht8
          obtain ⟨-, X1, -⟩ := HQ.out wr HI2.out.oth
          have hgal : ga < wr.heap.size := Nat.lt_of_lt_of_le HI2.out.la HI2.out.bel.size
          obtain ⟨z, hz⟩ : ∃ z, T2.counts.getD t 0 = z := ⟨_, rfl⟩
          obtain ⟨y, hy⟩ : ∃ y, T2.colors.getD t 0 = y := ⟨_, rfl⟩
          rw [hz] at ca
          have HKST : Hid (kidStep (-1) 1 (T2, td) (t : Int) = if y = 1 then ((⟨T2.counts.set t (wrap64 (z - 1)), T2.colors⟩ : TrialD), td) else ((⟨T2.counts.set t (wrap64 (z - 1)), T2.colors.set t 1⟩ : TrialD), td ++ [(t : Int)])) := by
            show _ = _
            unfold kidStep
            simp only [show ((t : Int)).toNat = t from by omega, hz, hy, Int.sub_eq_add_neg]
          have HY : Hid (T2.colors.getD t 0 = y) := hy
          have HGK : Hid (w2.heap.size ≤ gk) := hgkB
          have HTJ : Hid (ks[j] = (t : Int)) := ht
          clear HC h1 hcp hmx hz hy ht hgkB
          go_wp2
          refine wp_region_last 16 (by kernel_rfl) (by kernel_rfl) (fun i _ v => RB (gx) ga c gk n kc j t z (wrap64 (z - 1)) i v) (fun _ _ _ _ h _ => h) ?_ ?_
          · intro i o hi ho a X hXX hA hdep
            match i, hi, ho with
            | 0, _, ho =>
              obtain rfl := Option.some.inj ho
              exact opFieldT 0 (by omega) (alike_at hA (t := 7) (by kernel_rfl)) ⟨_, rfl, Below.refl _ _, rfl⟩
            | 1, _, ho =>
              obtain rfl := Option.some.inj ho
              have e0 : a.eval (.tmp 57) = .pointer (some ⟨gx, 0, none⟩) := hdep ⟨0, .data⟩ (by simp) rfl 57 rfl
              exact opLoadI e0 ((X1.later hXX X1.lt).cell 0) ⟨_, rfl, Below.refl _ _, rfl⟩
            | 2, _, ho =>
              obtain rfl := Option.some.inj ho
              exact opMove (alike_at hA (t := 10) (by kernel_rfl)) ⟨_, rfl, Below.refl _ _, rfl⟩
            | 3, _, ho =>
              obtain rfl := Option.some.inj ho
              exact opMove (alike_at hA (t := 11) (by kernel_rfl)) ⟨_, rfl, Below.refl _ _, rfl⟩
            | 4, _, ho =>
              obtain rfl := Option.some.inj ho
              have e2 : a.eval (.tmp 59) = .slice (some ⟨gk, 0, none⟩) n kc := hdep ⟨2, .data⟩ (by simp) rfl 59 rfl
              have e3 : a.eval (.tmp 60) = .int .i64 (j : Int) := hdep ⟨3, .data⟩ (by simp) rfl 60 rfl
              exact opIndexI e2 e3 hlt ⟨_, rfl, Below.refl _ _, rfl⟩
            | 5, _, ho =>
              obtain rfl := Option.some.inj ho
              have e4 : a.eval (.tmp 61) = .pointer (some ⟨gk, j, none⟩) := hdep ⟨4, .data⟩ (by simp) rfl 61 rfl
              exact opLoadInt e4 ((hXX.cell (p := ⟨gk, j, none⟩) hgk).trans hck) ⟨_, rfl, Below.refl _ _, rfl⟩
            | 6, _, ho =>
              obtain rfl := Option.some.inj ho
              exact opFieldT 0 (by omega) (alike_at hA (t := 7) (by kernel_rfl)) ⟨_, rfl, Below.refl _ _, rfl⟩
            | 7, _, ho =>
              obtain rfl := Option.some.inj ho
              have e6 : a.eval (.tmp 63) = .pointer (some ⟨gx, 0, none⟩) := hdep ⟨6, .data⟩ (by simp) rfl 63 rfl
              exact opLoadI e6 ((X1.later hXX X1.lt).cell 0) ⟨_, rfl, Below.refl _ _, rfl⟩
            | 8, _, ho =>
              obtain rfl := Option.some.inj ho
              exact opMove (alike_at hA (t := 10) (by kernel_rfl)) ⟨_, rfl, Below.refl _ _, rfl⟩
            | 9, _, ho =>
              obtain rfl := Option.some.inj ho
              exact opMove (alike_at hA (t := 11) (by kernel_rfl)) ⟨_, rfl, Below.refl _ _, rfl⟩
            | 10, _, ho =>
              obtain rfl := Option.some.inj ho
              have e8 : a.eval (.tmp 65) = .slice (some ⟨gk, 0, none⟩) n kc := hdep ⟨8, .data⟩ (by simp) rfl 65 rfl
              have e9 : a.eval (.tmp 66) = .int .i64 (j : Int) := hdep ⟨9, .data⟩ (by simp) rfl 66 rfl
              exact opIndexI e8 e9 hlt ⟨_, rfl, Below.refl _ _, rfl⟩
            | 11, _, ho =>
              obtain rfl := Option.some.inj ho
              have e10 : a.eval (.tmp 67) = .pointer (some ⟨gk, j, none⟩) := hdep ⟨10, .data⟩ (by simp) rfl 67 rfl
              exact opLoadInt e10 ((hXX.cell (p := ⟨gk, j, none⟩) hgk).trans hck) ⟨_, rfl, Below.refl _ _, rfl⟩
            | 12, _, ho =>
              obtain rfl := Option.some.inj ho
              have e7 : a.eval (.tmp 64) = .slice (some ⟨ga, 0, none⟩) 8 c := hdep ⟨7, .data⟩ (by simp) rfl 64 rfl
              have e11 : a.eval (.tmp 68) = .int .i64 (t : Int) := hdep ⟨11, .data⟩ (by simp) rfl 68 rfl
              exact opIndexI e7 e11 ht8 ⟨_, rfl, Below.refl _ _, rfl⟩
            | 13, _, ho =>
              obtain rfl := Option.some.inj ho
              have e12 : a.eval (.tmp 69) = .pointer (some ⟨ga, t, none⟩) := hdep ⟨12, .data⟩ (by simp) rfl 69 rfl
              exact opLoadInt e12 ((hXX.cell (p := ⟨ga, t, none⟩) hgal).trans ca) ⟨_, rfl, Below.refl _ _, rfl⟩
            | 14, _, ho =>
              obtain rfl := Option.some.inj ho
              have e13 : a.eval (.tmp 70) = .int .i64 z := hdep ⟨13, .data⟩ (by simp) rfl 70 rfl
              exact opSub1 e13 ⟨_, rfl, Below.refl _ _, rfl⟩
            | 15, _, ho =>
              obtain rfl := Option.some.inj ho
              have e1 : a.eval (.tmp 58) = .slice (some ⟨ga, 0, none⟩) 8 c := hdep ⟨1, .data⟩ (by simp) rfl 58 rfl
              have e5 : a.eval (.tmp 62) = .int .i64 (t : Int) := hdep ⟨5, .data⟩ (by simp) rfl 62 rfl
              exact opIndexI e1 e5 ht8 ⟨_, rfl, Below.refl _ _, rfl⟩
            | q + 16, hi, _ => exact absurd hi (by omega)
          · intro o ho a X hXX hA hdep
            obtain rfl := Option.some.inj ho
            have e15 : a.eval (.tmp 72) = .pointer (some ⟨ga, t, none⟩) := hdep ⟨15, .data⟩ (by simp) rfl 72 rfl
            have e14 : a.eval (.tmp 71) = .int .i64 (wrap64 (z - 1)) := hdep ⟨14, .data⟩ (by simp) rfl 71 rfl
            have BX := bi_later HI2.out hXX
            obtain ⟨ca2, fa2, -, -⟩ := bi_cells BX t ht8
            refine opStoreInt e15 e14 ca2 fa2 ?_
            have HI3 : Hid _ := bi_count BX t (wrap64 (z - 1))
            have HK3 : Hid (ownI (X.setCell ⟨ga, t, none⟩ (.int .i64 (wrap64 (z - 1)))) w2.heap.size (.slice (some ⟨gk, 0, none⟩) n kc) ks) := ownI_same (ownI_later HK2.out hXX) (fun g hg => heap_setCell_other _ _ _ _ (by have := (ownI_lt HK2.out g hg).1; have := HI2.out.la; show g ≠ ga; omega))
            obtain ⟨us, hus, rfl⟩ := alike_tmps hA [57, 58, 59, 60, 61, 62, 63, 64, 65, 66, 67, 68, 69, 70, 71, 72] (by kernel_rfl)
            clear hdep hA hus e15 e14 BX ca2 fa2 ho X1 hck hgk ca hgal
            generalize X.setCell ⟨ga, t, none⟩ (.int .i64 (wrap64 (z - 1))) = Y at *
            simp only [List.mapIdx_cons, List.mapIdx_nil, Nat.reduceAdd, List.contains_cons, List.contains_nil, Nat.reduceBEq, Bool.or_false, Bool.or_true, if_true, if_false, Bool.false_eq_true]
            have HCY : Hid (∀ V, Below Y.heap.size Y V → V.cell? ⟨gx, 1, none⟩ = some (.slice (some ⟨gb, 0, none⟩) 8 d) ∧ V.cell? ⟨gk, j, none⟩ = some (.int .i64 (t : Int)) ∧ V.cell? ⟨gb, t, none⟩ = some (.int .i64 y)) := fun V hV => by
              have b1 := bi_later HI3.out hV
              have k1 := ownI_later HK3.out hV
              refine ⟨(HQ.out V b1.oth).2.1.cell 1, ?_, ?_⟩
              · rcases ownI_form k1 with ⟨h1, -⟩ | ⟨gk2, cap2, h1, -, -, -, -, HC⟩
                · cases h1
                · have e1 : gk = gk2 := by simp only [Value.slice.injEq, Option.some.injEq, Addr.mk.injEq] at h1; exact h1.1.1
                  subst e1
                  have h2 := (HC.out j hj2).1
                  rw [HTJ.out] at h2
                  exact h2
              · have := (bi_cells b1 t ht8).2.2.1
                rw [HY.out] at this
                exact this
            have hne2 := LaterW.some_ Y
            have y4 : ∀ V : LaterW Y, V.on.cell? ⟨gx, 1, none⟩ = some (.slice (some ⟨gb, 0, none⟩) 8 d) := fun V => (HCY.out V.on V.bel).1
            have yk : ∀ V : LaterW Y, V.on.cell? ⟨gk, j, none⟩ = some (.int .i64 (t : Int)) := fun V => (HCY.out V.on V.bel).2.1
            have yc : ∀ V : LaterW Y, V.on.cell? ⟨gb, t, none⟩ = some (.int .i64 y) := fun V => (HCY.out V.on V.bel).2.2
            have i1 : (j : Int) < (n : Int) := by omega
            have i2 : (t : Int) < 8 := by omega
            by_cases hy0 : y = 1
            · have hq : (y != 1) = false := by simp [hy0]
              have HNX : Hid ((ks.take (j + 1)).foldl (kidStep (-1) 1) (T', rest) = ((⟨T2.counts.set t (wrap64 (z - 1)), T2.colors⟩ : TrialD), td)) := by show _ = _; rw [HSTEP.out, HKST.out, if_pos hy0]
              clear hy0 HKST HSTEP
              go_wp2
              refine wp_region_later Y (Below.refl _ _) (by kernel_rfl) (by kernel_rfl) ?_
              repeat (go_big_quiet_step (fail))
              refine wpQuiet_nil ?_
              intro V hVe
              have hV : Below Y.heap.size Y V := by obtain ⟨q, hq2⟩ := hVe; rw [hq2]; exact q.bel
              have HI4 : Hid _ := bi_later HI3.out hV
              have HK4 : Hid _ := ownI_later HK3.out hV
              clear hVe y4 yk yc hne2 hV
              go_wp2
              go_roundw
              case rel => exact ⟨j + 1, _, td, qa2, qc2, by go_num, rfl, by omega, HI4, HNX, HK4, HD2⟩
              case measure => simp [intOf]; omega
            · have hq : (y != 1) = true := by simp [hy0]
              have HNX : Hid ((ks.take (j + 1)).foldl (kidStep (-1) 1) (T', rest) = ((⟨T2.counts.set t (wrap64 (z - 1)), T2.colors.set t 1⟩ : TrialD), td ++ [(t : Int)])) := by show _ = _; rw [HSTEP.out, HKST.out, if_neg hy0]
              clear hy0 HKST HSTEP
              go_wp2
              refine wp_region_later Y (Below.refl _ _) (by kernel_rfl) (by kernel_rfl) ?_
              repeat (go_big_quiet_step (fail))
              refine wpQuiet_nil ?_
              intro V hVe
              have hV : Below Y.heap.size Y V := by obtain ⟨q, hq2⟩ := hVe; rw [hq2]; exact q.bel
              have HI4 : Hid _ := bi_later HI3.out hV
              have HK4 : Hid _ := ownI_later HK3.out hV
              obtain ⟨-, hckV, -⟩ := HCY.out V hV
              have hgkV : gk < V.heap.size := (ownI_lt HK4.out gk rfl).2
              have Y1 := (HQ.out V HI4.out.oth).2.1
              clear hVe y4 yk yc hne2 hV
              go_wp2
              refine wp_region_last 7 (by kernel_rfl) (by kernel_rfl) (fun i _ v => RCo (gx) gb d gk n kc j t i v) (fun _ _ _ _ h _ => h) ?_ ?_
              · intro i o hi ho a X hXX hA hdep
                match i, hi, ho with
                | 0, _, ho =>
                  obtain rfl := Option.some.inj ho
                  exact opFieldT 1 (by omega) (alike_at hA (t := 7) (by kernel_rfl)) ⟨_, rfl, Below.refl _ _, rfl⟩
                | 1, _, ho =>
                  obtain rfl := Option.some.inj ho
                  have e0 : a.eval (.tmp 82) = .pointer (some ⟨gx, 1, none⟩) := hdep ⟨0, .data⟩ (by simp) rfl 82 rfl
                  exact opLoadI e0 ((Y1.later hXX Y1.lt).cell 1) ⟨_, rfl, Below.refl _ _, rfl⟩
                | 2, _, ho =>
                  obtain rfl := Option.some.inj ho
                  exact opMove (alike_at hA (t := 10) (by kernel_rfl)) ⟨_, rfl, Below.refl _ _, rfl⟩
                | 3, _, ho =>
                  obtain rfl := Option.some.inj ho
                  exact opMove (alike_at hA (t := 11) (by kernel_rfl)) ⟨_, rfl, Below.refl _ _, rfl⟩
                | 4, _, ho =>
                  obtain rfl := Option.some.inj ho
                  have e2 : a.eval (.tmp 84) = .slice (some ⟨gk, 0, none⟩) n kc := hdep ⟨2, .data⟩ (by simp) rfl 84 rfl
                  have e3 : a.eval (.tmp 85) = .int .i64 (j : Int) := hdep ⟨3, .data⟩ (by simp) rfl 85 rfl
                  exact opIndexI e2 e3 hlt ⟨_, rfl, Below.refl _ _, rfl⟩
                | 5, _, ho =>
                  obtain rfl := Option.some.inj ho
                  have e4 : a.eval (.tmp 86) = .pointer (some ⟨gk, j, none⟩) := hdep ⟨4, .data⟩ (by simp) rfl 86 rfl
                  exact opLoadInt e4 ((hXX.cell (p := ⟨gk, j, none⟩) hgkV).trans hckV) ⟨_, rfl, Below.refl _ _, rfl⟩
                | 6, _, ho =>
                  obtain rfl := Option.some.inj ho
                  have e1 : a.eval (.tmp 83) = .slice (some ⟨gb, 0, none⟩) 8 d := hdep ⟨1, .data⟩ (by simp) rfl 83 rfl
                  have e5 : a.eval (.tmp 87) = .int .i64 (t : Int) := hdep ⟨5, .data⟩ (by simp) rfl 87 rfl
                  exact opIndexI e1 e5 ht8 ⟨_, rfl, Below.refl _ _, rfl⟩
              · intro o ho a X hXX hA hdep
                obtain rfl := Option.some.inj ho
                have e6 : a.eval (.tmp 88) = .pointer (some ⟨gb, t, none⟩) := hdep ⟨6, .data⟩ (by simp) rfl 88 rfl
                have BX := bi_later HI4.out hXX
                obtain ⟨-, -, cb2, fb2⟩ := bi_cells BX t ht8
                refine opStoreC e6 cb2 fb2 ?_
                have HI5 : Hid _ := bi_color BX t 1
                have HK5 : Hid (ownI (X.setCell ⟨gb, t, none⟩ (.int .i64 1)) w2.heap.size (.slice (some ⟨gk, 0, none⟩) n kc) ks) := ownI_same (ownI_later HK4.out hXX) (fun g hg => heap_setCell_other _ _ _ _ (by have := (ownI_lt HK4.out g hg).1; have := HI2.out.lb; show g ≠ gb; omega))
                obtain ⟨us, hus, rfl⟩ := alike_tmps hA [82, 83, 84, 85, 86, 87, 88] (by kernel_rfl)
                clear hdep hA hus e6 BX cb2 fb2 ho Y1 hckV hgkV
                generalize X.setCell ⟨gb, t, none⟩ (.int .i64 1) = Y2 at *
                simp only [List.mapIdx_cons, List.mapIdx_nil, Nat.reduceAdd, List.contains_cons, List.contains_nil, Nat.reduceBEq, Bool.or_false, Bool.or_true, if_true, if_false, Bool.false_eq_true]
                have hck5 : Y2.cell? ⟨gk, j, none⟩ = some (.int .i64 (t : Int)) := by
                  rcases ownI_form HK5.out with ⟨h1, -⟩ | ⟨gk2, cap2, h1, -, -, -, -, HC⟩
                  · cases h1
                  · have e1 : gk = gk2 := by simp only [Value.slice.injEq, Option.some.injEq, Addr.mk.injEq] at h1; exact h1.1.1
                    subst e1
                    have h2 := (HC.out j hj2).1
                    rw [HTJ.out] at h2
                    exact h2
                obtain ⟨U, hU⟩ : ∃ U, U = Y2.alloc (.cells #[.int .i64 (t : Int)] 3) := ⟨_, rfl⟩
                have bU : Below Y2.heap.size Y2 U := by rw [hU]; exact (Below.refl _ _).alloc (Nat.le_refl _) _
                have HIU : Hid _ := bi_later HI5.out bU
                have HKU : Hid _ := ownI_later HK5.out bU
                have hUc : U.cell? ⟨Y2.heap.size, 0, none⟩ = some (.int .i64 (t : Int)) := by rw [hU, World.cell?_alloc_mark]; rfl
                have HUB : Hid (w2.heap.size ≤ U.heap.size) := HIU.out.bel.size
                clear bU
                go_wp2_with (at_builtin; rw [← hU]; clear hU; refine wpList_appendL rfl _ _ rfl w2.heap.size _ _ rfl HIU.out.q ⟨Y2.heap.size, 0, none⟩ (t : Int) rfl hUc ?hlen HUB.out ?_)
                case hlen => have := HML.out; omega
                intro v6 X6 O6 s6 H6 A6 B6
                obtain ⟨qa6, qc6, rfl, -⟩ := rdI_own O6
                have HI6 : Hid _ := bi_push HIU.out H6.out B6.out O6
                have HK6 : Hid (ownI X6 w2.heap.size (.slice (some ⟨gk, 0, none⟩) n kc) ks) := ownI_same HKU.out (fun g hg => H6.out g (ownI_lt HKU.out g hg).2 (fun e => HD2.out g e hg))
                have HD6 : Hid (Dif2 (.slice qa6 (td ++ [(t : Int)]).length qc6) (.slice (some ⟨gk, 0, none⟩) n kc)) := fun g h1 h2 => by
                  rcases A6.out with e | e
                  · exact HD2.out g (by rw [← e]; exact h1) h2
                  · rw [e] at h1
                    injection h1 with h1
                    have := (ownI_lt HKU.out g h2).2
                    omega
                clear O6 H6 A6 B6 hck5 hUc
                go_wp2
                go_roundw
                case rel => exact ⟨j + 1, _, td ++ [(t : Int)], qa6, qc6, by go_num, by simp, by omega, HI6, HNX, HK6, HD6⟩
                case measure => simp [intOf]; omega
        · have HALL : Hid (ks.foldl (kidStep (-1) 1) (T', rest) = (T2, td)) := by
            have h1 := HFO.out
            rw [List.take_of_length_le (by have := Hn.out; omega)] at h1
            exact h1
          have HT2 : Hid (Slots td ∧ mu 1 (T2, td) < mu 1 (T', rest ++ [(s : Int)]) ∧ R = spreadAll (-1) 1 H T2 td) := by
            have h1 := HRO.out
            have h2 := HSN.out
            rw [HALL.out] at h1 h2
            exact ⟨h1.2.1, h1.2.2, h2⟩
          have HMS2 : Hid (othersAt wr gb 1 = others 1 T2.colors) := othersAt_is HI2.out 1
          have hge : n ≤ j := by omega
          clear hlt
          go_wp2
          go_roundw
          case rel => exact ⟨T2, td, qa2, qc2, rfl, HI2, HT2.out.1, by have := HT2.out.2.1; have := HMU.out; show _ ≤ _; omega, HT2.out.2.2⟩
          case measure =>
            have h1 := HT2.out.2.1
            have h2 := HMS2.out
            have h3 := HMS.out
            have h4 := HLR.out
            simp only [mu, List.length_append, List.length_singleton] at h1
            show lenV (.slice qa2 td.length qc2) + 2 * othersAt _ gb 1 < lenV (.slice (some ⟨gq, 0, none⟩) (m + 1) qc) + 2 * othersAt _ gb 1
            simp only [lenV]
            omega
end Go.Proofs.Ytnjplfofcjonhaa

namespace Go.Proofs.Ytnjplfofcjonhaa
open Go.RowKit
set_option linter.unusedVariables false
set_option maxRecDepth 100000
theorem wpList_appendM {w : World} {ops : Array Oper} {rest : List Oper} {o : Oper} {a : Act} {Q : Exit → Act → World → Prop} (hgd : o.guard = none) (s x : Operand)
    (ho : o.op = .call { callee := .builtin .append, args := #[s, x], argTypes := #[26, 26] }) (B : Nat) (v : Value) (P : List Int) (hs : a.eval s = v) (hown : ownI w B v P)
    (ka : Option Addr) (kc n : Nat) (Y : List Int) (hn : n = Y.length) (hx : a.eval x = .slice ka n kc) (C : Nat) (hk : ownI w C (.slice ka n kc) Y) (hlen : P.length + Y.length ≤ 16777216) (hB : B ≤ w.heap.size)
    (h : ∀ v' w', ownI w' B v' (P ++ Y) → w.heap.size ≤ w'.heap.size → Hid (∀ i, i < w.heap.size → v.ownBlock ≠ some i → w'.heap[i]? = w.heap[i]?) → Hid (∀ C w0, Below C w0 w → C ≤ B → Below C w0 w') → wpList Try.prog ops Q rest (a.put o.dst v') w') : wpList Try.prog ops Q (o :: rest) a w := by
  obtain ⟨i0, hi, hz0, hz1, hz2⟩ := info_parts infoI
  have hlt := World.ownsRow.lt hown
  subst hn
  rcases ownI_form hk with ⟨h1, rfl⟩ | ⟨g, cap, h1, -, -, -, -, HC⟩
  · simp only [Value.slice.injEq] at h1
    obtain ⟨rfl, -, rfl⟩ := h1
    refine wpList_append_own_none hgd s x 26 ho B 3 i0 1 Try.underlying26 hi v P.length (P.map intV) hs hown hx ?_
    exact h v w (by rw [List.append_nil]; exact hown) (Nat.le_refl _) (fun _ _ _ => rfl) (fun _ _ hb _ => hb)
  · simp only [Value.slice.injEq] at h1
    obtain ⟨rfl, -, rfl⟩ := h1
    refine wpList_append_own_at w hgd s x 26 ho B 3 i0 (.int .i64 0) 1 8 Try.underlying26 hi hz0 hz1 hz2 rfl (by decide) v P.length (P.map intV) hs hown ⟨g, 0, none⟩ Y.length kc (Y.map intV) hx (by simp) ?_ ?_ ?_ ?_ hB ?_
    · intro j u hj
      have hj2 : j < Y.length := by
        have := (List.getElem?_eq_some_iff.1 hj).1
        simpa using this
      rw [List.getElem?_map, List.getElem?_eq_getElem hj2] at hj
      injection hj with hj
      subst hj
      have := (HC.out j hj2).1
      rw [show Addr.add ⟨g, 0, none⟩ j = ⟨g, j, none⟩ from by cases j <;> simp [Addr.add]]
      exact this
    · intro u hu
      obtain ⟨z, -, rfl⟩ := List.mem_map.1 hu
      rfl
    · unfold maxLen; omega
    · omega
    · intro v' w' hown' hgrow _ hat
      refine h v' w' ?_ hgrow.size (fun i hi hne => hgrow.block i hi (fun e => hne e.symm)) (fun C w0 hb hC => ?_)
      · unfold ownI
        rw [List.length_append, List.map_append]
        exact hown'
      · exact ⟨hgrow.os.trans hb.os, hgrow.tape.trans hb.tape, hgrow.output.trans hb.output, Nat.le_trans hb.size hgrow.size, fun k hk => (hgrow.block k (by have := hb.size; omega) (fun e => by have := (hlt k e.symm).1; omega)).trans (hb.block k hk)⟩
def graysAt (X : World) (gb : Nat) : Nat := ((List.range 8).filter fun i => match X.cell? ⟨gb, i, none⟩ with | some (.int _ q) => decide (q = 1) | _ => false).length
theorem graysAt_is {W wr : World} {B ga gb cc d : Nat} {T : TrialD} {vq : Value} {todo : List Int} (h : BI W wr B ga gb cc d T vq todo) : graysAt wr gb = colored 1 T.colors := by
  obtain ⟨l1, l2⟩ := h.eight
  unfold graysAt colored
  have h1 : ((List.range 8).filter fun i => match wr.cell? ⟨gb, i, none⟩ with | some (.int _ q) => decide (q = 1) | _ => false) = (List.range 8).filter fun i => decide (T.colors.getD i 0 = 1) := by
    refine List.filter_congr (fun i hi => ?_)
    rw [(bi_cells h i (List.mem_range.1 hi)).2.2.1]
  rw [h1]
  obtain ⟨ys, hys⟩ : ∃ ys, T.colors = ys := ⟨_, rfl⟩
  rw [hys] at l2 ⊢
  match ys, l2 with
  | [a0, a1, a2, a3, a4, a5, a6, a7], _ =>
    simp only [List.range, List.range.loop, List.countP_eq_length_filter]
    by_cases e0 : a0 = 1 <;> by_cases e1 : a1 = 1 <;> by_cases e2 : a2 = 1 <;> by_cases e3 : a3 = 1 <;> by_cases e4 : a4 = 1 <;> by_cases e5 : a5 = 1 <;> by_cases e6 : a6 = 1 <;> by_cases e7 : a7 = 1 <;> simp [List.filter, List.getD, e0, e1, e2, e3, e4, e5, e6, e7]
theorem bi_same {W wr : World} {B ga gb c d gx : Nat} {T : TrialD} {vq : Value} {todo : List Int} {x0 x1 : Value} (h : BI W wr B ga gb c d T vq todo) (ht : Two wr gx x0 x1) (hB : B ≤ gx) (hga : gx ≠ ga) (hgb : gx ≠ gb) (hl : gx < W.heap.size) : BI W (setTwo wr gx x0 x1) B ga gb c d T vq todo := by
  have e : ∀ g, (setTwo wr gx x0 x1).heap[g]? = wr.heap[g]? := fun g => by
    by_cases hg : g = gx
    · subst hg
      have h1 := heap_setCell_same wr g 0 _ _ x0 ht
      have h2 := heap_setCell_same _ g 1 _ _ x1 h1
      have h3 : (setTwo wr g x0 x1).heap[g]? = some (.cells #[x0, x1] 77 (0, 0)) := h2
      have ht' : wr.heap[g]? = some (.cells #[x0, x1] 77 (0, 0)) := ht
      rw [h3, ht']
    · exact setTwo_other _ _ _ _ g hg
  have hb : Below B W (setTwo wr gx x0 x1) := by
    unfold setTwo
    exact (h.bel.setCell (p := ⟨gx, 0, none⟩) hB _).setCell (p := ⟨gx, 1, none⟩) hB _
  exact ⟨hb, fun g h1 h2 h3 => (e g).trans (h.oth g h1 h2 h3), ownI_same h.x (fun g _ => e g), ownI_same h.y (fun g _ => e g), h.ne, h.la, h.lb, h.hB, ownI_same h.q (fun g _ => e g)⟩
theorem sScan_no (v u : Value) (H : HeapD) (T : TrialD) (slot : Int) (w : World) (h : RdH w v H) (ht : RdT w u T) (hs : SmallH H) (hst : SmallT T) (hno : ¬ OkT H T slot) :
    Calls Try.prog 62 #[v, u, .int .i64 slot] w fun e w' => ∃ s : TSh, e = .returned s.v ∧ TM w' w.heap.size s T ∧ Below w.heap.size w w' := by
  have HRH : Hid (∀ X, Below w.heap.size w X → RdH X v H) := fun X hX => rdH_later h hX
  have HRT : Hid (∀ X, Below w.heap.size w X → RdT X u T) := fun X hX => rdT_later ht hX
  obtain ⟨ao, co, aw, cw, ab, cb, sa, sc, rfl, -⟩ := h
  obtain ⟨xa, xc, ya, yc, rfl, -, ri⟩ := ht
  obtain ⟨W, hW⟩ : ∃ W, W = ((w.alloc (.cells #[.slice ao H.objs.length co, .slice aw H.weaks.length cw, .slice ab H.buffer.length cb, .slice sa H.sites.length sc] 29)).alloc (.cells #[.slice xa T.counts.length xc, .slice ya T.colors.length yc] 77)).alloc (.cells #[.slice none 0 0, .slice none 0 0] 77) := ⟨_, rfl⟩
  have BW : Below w.heap.size w W := by rw [hW]; exact (((Below.refl _ _).alloc (Nat.le_refl _) _).alloc (by simp) _).alloc (by simp; omega) _
  have hWs : W.heap.size = w.heap.size + 3 := by rw [hW]; simp
  have q0 : Four W w.heap.size (.slice ao H.objs.length co) (.slice aw H.weaks.length cw) (.slice ab H.buffer.length cb) (.slice sa H.sites.length sc) := by
    have f1 := Four.new w (.slice ao H.objs.length co) (.slice aw H.weaks.length cw) (.slice ab H.buffer.length cb) (.slice sa H.sites.length sc)
    exact Eq.trans (by rw [hW, Below.heap_alloc _ _ _ (by simp; omega), Below.heap_alloc _ _ _ (by simp)]) f1
  have q1 : Two W (w.heap.size + 1) (.slice xa T.counts.length xc) (.slice ya T.colors.length yc) := by
    have f1 := Two.new (w.alloc (.cells #[.slice ao H.objs.length co, .slice aw H.weaks.length cw, .slice ab H.buffer.length cb, .slice sa H.sites.length sc] 29)) (.slice xa T.counts.length xc) (.slice ya T.colors.length yc)
    rw [show (w.alloc (.cells #[.slice ao H.objs.length co, .slice aw H.weaks.length cw, .slice ab H.buffer.length cb, .slice sa H.sites.length sc] 29)).heap.size = w.heap.size + 1 from by simp] at f1
    exact Eq.trans (by rw [hW, Below.heap_alloc _ _ _ (by simp)]) f1
  have q2 : Two W (w.heap.size + 2) (.slice none 0 0) (.slice none 0 0) := by
    have f1 := Two.new ((w.alloc (.cells #[.slice ao H.objs.length co, .slice aw H.weaks.length cw, .slice ab H.buffer.length cb, .slice sa H.sites.length sc] 29)).alloc (.cells #[.slice xa T.counts.length xc, .slice ya T.colors.length yc] 77)) (.slice none 0 0) (.slice none 0 0)
    rw [show ((w.alloc (.cells #[.slice ao H.objs.length co, .slice aw H.weaks.length cw, .slice ab H.buffer.length cb, .slice sa H.sites.length sc] 29)).alloc (.cells #[.slice xa T.counts.length xc, .slice ya T.colors.length yc] 77)).heap.size = w.heap.size + 2 from by simp] at f1
    rw [hW]
    exact f1
  have HQ : Hid (∀ X, Below W.heap.size W X → Four X w.heap.size (.slice ao H.objs.length co) (.slice aw H.weaks.length cw) (.slice ab H.buffer.length cb) (.slice sa H.sites.length sc) ∧ Two X (w.heap.size + 1) (.slice xa T.counts.length xc) (.slice ya T.colors.length yc) ∧ Two X (w.heap.size + 2) (.slice none 0 0) (.slice none 0 0)) :=
    fun X hX => ⟨q0.same (hX.block _ (by omega)), q1.same (hX.block _ (by omega)), q2.same (hX.block _ (by omega))⟩
  have HBW : Hid (Below w.heap.size w W) := BW
  have HWs : Hid (W.heap.size = w.heap.size + 3) := hWs
  have CC : Hid (∀ _ : Unit, _) := fun (_ : Unit) => sCopyT_calls _ T W (HRT.out W BW) hst
  obtain ⟨b, hb⟩ : ∃ b : Bool, b = true ↔ OkT H T slot := by
    by_cases h : OkT H T slot
    · exact ⟨true, by simp [h]⟩
    · exact ⟨false, by simp [h]⟩
  have CO : Hid (∀ X, Below w.heap.size w X → _) := fun X hX => sOkT_calls _ _ H T slot X (HRH.out X hX) (HRT.out X hX) hs hst b hb
  have HRI : Hid (∀ X, Below w.heap.size w X → RdI X ya T.colors) := fun X hX => rdI_later ri hX
  have HBO : Hid (b = true ↔ OkT H T slot) := hb
  obtain rfl : b = false := by cases b with | false => rfl | true => exact absurd (hb.1 rfl) hno
  have hlc := hst.colors
  clear q0 q1 q2 BW hWs HRH HRT hs hst hno ri hb
  go_enter Try.func62, Try.ntmps62
  go_wp2_with fail
  rw [← hW]
  clear hW
  refine (CC.out ()).mono ?_
  rintro e w1 ⟨s, rfl, M1, b1⟩
  obtain ⟨V, hV⟩ : ∃ V, V = w1.alloc (.cells #[.slice s.a s.n s.c, .slice s.b s.m s.d] 77) := ⟨_, rfl⟩
  have BV : Below w1.heap.size w1 V := by rw [hV]; exact (Below.refl _ _).alloc (Nat.le_refl _) _
  have HTV : Hid (TM V W.heap.size s T) := M1.later BV
  have HXV : Hid (Two V w1.heap.size (.slice s.a s.n s.c) (.slice s.b s.m s.d)) := by rw [hV]; exact Two.new w1 _ _
  have HBV : Hid (Below W.heap.size W V) := b1.trans (BV.mono b1.size)
  have HW1 : Hid (W.heap.size ≤ w1.heap.size) := b1.size
  have HVV : Hid (Below w.heap.size w V) := HBW.out.trans (HBV.out.mono HBW.out.size)
  obtain ⟨F1, X1, X2⟩ := HQ.out w1 b1
  have f0 : w1.cell? ⟨w.heap.size, 0, none⟩ = some (.slice ao H.objs.length co) := F1.cell 0
  have f1 : w1.cell? ⟨w.heap.size, 1, none⟩ = some (.slice aw H.weaks.length cw) := F1.cell 1
  have f2 : w1.cell? ⟨w.heap.size, 2, none⟩ = some (.slice ab H.buffer.length cb) := F1.cell 2
  have f3 : w1.cell? ⟨w.heap.size, 3, none⟩ = some (.slice sa H.sites.length sc) := F1.cell 3
  have t0 : w1.cell? ⟨w.heap.size + 1, 0, none⟩ = some (.slice xa T.counts.length xc) := X1.cell 0
  have t1 : w1.cell? ⟨w.heap.size + 1, 1, none⟩ = some (.slice ya T.colors.length yc) := X1.cell 1
  have g0 : w.heap.size < w1.heap.size := F1.lt
  have g1 : w.heap.size + 1 < w1.heap.size := X1.lt
  have n0 : ¬ w.heap.size = w1.heap.size := by omega
  have n1 : ¬ w.heap.size + 1 = w1.heap.size := by omega
  have HC2 : Hid (Calls _ _ _ V _) := CO.out V HVV.out
  rw [show s.v = .agg #[.slice s.a s.n s.c, .slice s.b s.m s.d] from rfl]
  clear CC CO M1 b1 BV F1 X1 X2
  go_wp2_with fail
  rw [← hV]
  clear hV
  refine HC2.out.mono ?_
  rintro e w2 ⟨rfl, b2⟩
  have HB2 : Hid (Below W.heap.size W w2) := HBV.out.trans (b2.mono HBV.out.size)
  have HT2 : Hid (TM w2 W.heap.size s T) := HTV.out.later b2
  have X2 : Two w2 w1.heap.size (.slice s.a s.n s.c) (.slice s.b s.m s.d) := HXV.out.later b2 HXV.out.lt
  obtain ⟨-, T1, R1⟩ := HQ.out w2 HB2.out
  have x0 : w2.cell? ⟨w1.heap.size, 0, none⟩ = some (.slice s.a s.n s.c) := X2.cell 0
  have x1 : w2.cell? ⟨w1.heap.size, 1, none⟩ = some (.slice s.b s.m s.d) := X2.cell 1
  have u1 : w2.cell? ⟨w.heap.size + 1, 1, none⟩ = some (.slice ya T.colors.length yc) := T1.cell 1
  have r0 : w2.cell? ⟨w.heap.size + 2, 0, none⟩ = some (.slice none 0 0) := R1.cell 0
  have r1 : w2.cell? ⟨w.heap.size + 2, 1, none⟩ = some (.slice none 0 0) := R1.cell 1
  have z0 := R1.frozen 0
  have z1 := R1.frozen 1
  have HFIN : Hid (TM (setTwo w2 (w.heap.size + 2) (.slice s.a s.n s.c) (.slice s.b s.m s.d)) w.heap.size s T ∧ Below w.heap.size w (setTwo w2 (w.heap.size + 2) (.slice s.a s.n s.c) (.slice s.b s.m s.d))) := by
    have e3 := HWs.out
    refine ⟨(HT2.out.same (fun g h1 h2 => setTwo_other _ _ _ _ g (by omega))).mono (by omega), ?_⟩
    unfold setTwo
    exact ((HBW.out.trans (HB2.out.mono (by omega))).setCell (by simp) _).setCell (by simp) _
  clear f0 f1 f2 f3 t0 t1 g0 g1 n0 n1 T1 R1 X2 b2
  go_wp2
  exact bodyPost_ret (v := .agg #[.slice s.a s.n s.c, .slice s.b s.m s.d]) (by simp [results, Try.results62, go_sem, *]) rfl ⟨s, rfl, HFIN.out⟩
set_option maxHeartbeats 16000000 in
theorem sScan_yes (v u : Value) (H : HeapD) (T : TrialD) (k : Nat) (w : World) (h : RdH w v H) (ht : RdT w u T) (hs : SmallH H) (hst : SmallT T) (hf : ∀ o ∈ H.objs, ∀ z ∈ o.field, in64 z) (hok : OkT H T (k : Int)) :
    Calls Try.prog 62 #[v, u, .int .i64 (k : Int)] w fun e w' => ∃ s : TSh, e = .returned s.v ∧ TM w' w.heap.size s (scanT H T (k : Int)) ∧ Below w.heap.size w w' := by
  have HRH : Hid (∀ X, Below w.heap.size w X → RdH X v H) := fun X hX => rdH_later h hX
  have HRT : Hid (∀ X, Below w.heap.size w X → RdT X u T) := fun X hX => rdT_later ht hX
  obtain ⟨ao, co, aw, cw, ab, cb, sa, sc, rfl, -⟩ := h
  obtain ⟨xa, xc, ya, yc, rfl, -, ri⟩ := ht
  obtain ⟨W, hW⟩ : ∃ W, W = ((w.alloc (.cells #[.slice ao H.objs.length co, .slice aw H.weaks.length cw, .slice ab H.buffer.length cb, .slice sa H.sites.length sc] 29)).alloc (.cells #[.slice xa T.counts.length xc, .slice ya T.colors.length yc] 77)).alloc (.cells #[.slice none 0 0, .slice none 0 0] 77) := ⟨_, rfl⟩
  have BW : Below w.heap.size w W := by rw [hW]; exact (((Below.refl _ _).alloc (Nat.le_refl _) _).alloc (by simp) _).alloc (by simp; omega) _
  have hWs : W.heap.size = w.heap.size + 3 := by rw [hW]; simp
  have q0 : Four W w.heap.size (.slice ao H.objs.length co) (.slice aw H.weaks.length cw) (.slice ab H.buffer.length cb) (.slice sa H.sites.length sc) := by
    have f1 := Four.new w (.slice ao H.objs.length co) (.slice aw H.weaks.length cw) (.slice ab H.buffer.length cb) (.slice sa H.sites.length sc)
    exact Eq.trans (by rw [hW, Below.heap_alloc _ _ _ (by simp; omega), Below.heap_alloc _ _ _ (by simp)]) f1
  have q1 : Two W (w.heap.size + 1) (.slice xa T.counts.length xc) (.slice ya T.colors.length yc) := by
    have f1 := Two.new (w.alloc (.cells #[.slice ao H.objs.length co, .slice aw H.weaks.length cw, .slice ab H.buffer.length cb, .slice sa H.sites.length sc] 29)) (.slice xa T.counts.length xc) (.slice ya T.colors.length yc)
    rw [show (w.alloc (.cells #[.slice ao H.objs.length co, .slice aw H.weaks.length cw, .slice ab H.buffer.length cb, .slice sa H.sites.length sc] 29)).heap.size = w.heap.size + 1 from by simp] at f1
    exact Eq.trans (by rw [hW, Below.heap_alloc _ _ _ (by simp)]) f1
  have q2 : Two W (w.heap.size + 2) (.slice none 0 0) (.slice none 0 0) := by
    have f1 := Two.new ((w.alloc (.cells #[.slice ao H.objs.length co, .slice aw H.weaks.length cw, .slice ab H.buffer.length cb, .slice sa H.sites.length sc] 29)).alloc (.cells #[.slice xa T.counts.length xc, .slice ya T.colors.length yc] 77)) (.slice none 0 0) (.slice none 0 0)
    rw [show ((w.alloc (.cells #[.slice ao H.objs.length co, .slice aw H.weaks.length cw, .slice ab H.buffer.length cb, .slice sa H.sites.length sc] 29)).alloc (.cells #[.slice xa T.counts.length xc, .slice ya T.colors.length yc] 77)).heap.size = w.heap.size + 2 from by simp] at f1
    rw [hW]
    exact f1
  have HQ : Hid (∀ X, Below W.heap.size W X → Four X w.heap.size (.slice ao H.objs.length co) (.slice aw H.weaks.length cw) (.slice ab H.buffer.length cb) (.slice sa H.sites.length sc) ∧ Two X (w.heap.size + 1) (.slice xa T.counts.length xc) (.slice ya T.colors.length yc) ∧ Two X (w.heap.size + 2) (.slice none 0 0) (.slice none 0 0)) :=
    fun X hX => ⟨q0.same (hX.block _ (by omega)), q1.same (hX.block _ (by omega)), q2.same (hX.block _ (by omega))⟩
  have HBW : Hid (Below w.heap.size w W) := BW
  have HWs : Hid (W.heap.size = w.heap.size + 3) := hWs
  have CC : Hid (∀ _ : Unit, _) := fun (_ : Unit) => sCopyT_calls _ T W (HRT.out W BW) hst
  obtain ⟨b, hb⟩ : ∃ b : Bool, b = true ↔ OkT H T (k : Int) := by
    by_cases h : OkT H T (k : Int)
    · exact ⟨true, by simp [h]⟩
    · exact ⟨false, by simp [h]⟩
  have CO : Hid (∀ X, Below w.heap.size w X → _) := fun X hX => sOkT_calls _ _ H T (k : Int) X (HRH.out X hX) (HRT.out X hX) hs hst b hb
  have HRI : Hid (∀ X, Below w.heap.size w X → RdI X ya T.colors) := fun X hX => rdI_later ri hX
  have HBO : Hid (b = true ↔ OkT H T (k : Int)) := hb
  have HS : Hid (SmallH H) := hs
  have HF : Hid (∀ o ∈ H.objs, ∀ z ∈ o.field, in64 z) := hf
  obtain rfl : b = true := hb.2 hok
  have HOK : Hid (OkT H T (k : Int)) := hok
  have HR : Hid (∀ X, Below w.heap.size w X → RdH X _ H) := HRH.out
  have hlc := hst.colors
  clear q0 q1 q2 BW hWs HRH HRT hs hst ri hb hok hf
  go_enter Try.func62, Try.ntmps62
  go_wp2_with fail
  rw [← hW]
  clear hW
  refine (CC.out ()).mono ?_
  rintro e w1 ⟨s, rfl, M1, b1⟩
  obtain ⟨V, hV⟩ : ∃ V, V = w1.alloc (.cells #[.slice s.a s.n s.c, .slice s.b s.m s.d] 77) := ⟨_, rfl⟩
  have BV : Below w1.heap.size w1 V := by rw [hV]; exact (Below.refl _ _).alloc (Nat.le_refl _) _
  have HTV : Hid (TM V W.heap.size s T) := M1.later BV
  have HXV : Hid (Two V w1.heap.size (.slice s.a s.n s.c) (.slice s.b s.m s.d)) := by rw [hV]; exact Two.new w1 _ _
  have HBV : Hid (Below W.heap.size W V) := b1.trans (BV.mono b1.size)
  have HW1 : Hid (W.heap.size ≤ w1.heap.size) := b1.size
  have HVV : Hid (Below w.heap.size w V) := HBW.out.trans (HBV.out.mono HBW.out.size)
  obtain ⟨F1, X1, X2⟩ := HQ.out w1 b1
  have f0 : w1.cell? ⟨w.heap.size, 0, none⟩ = some (.slice ao H.objs.length co) := F1.cell 0
  have f1 : w1.cell? ⟨w.heap.size, 1, none⟩ = some (.slice aw H.weaks.length cw) := F1.cell 1
  have f2 : w1.cell? ⟨w.heap.size, 2, none⟩ = some (.slice ab H.buffer.length cb) := F1.cell 2
  have f3 : w1.cell? ⟨w.heap.size, 3, none⟩ = some (.slice sa H.sites.length sc) := F1.cell 3
  have t0 : w1.cell? ⟨w.heap.size + 1, 0, none⟩ = some (.slice xa T.counts.length xc) := X1.cell 0
  have t1 : w1.cell? ⟨w.heap.size + 1, 1, none⟩ = some (.slice ya T.colors.length yc) := X1.cell 1
  have g0 : w.heap.size < w1.heap.size := F1.lt
  have g1 : w.heap.size + 1 < w1.heap.size := X1.lt
  have n0 : ¬ w.heap.size = w1.heap.size := by omega
  have n1 : ¬ w.heap.size + 1 = w1.heap.size := by omega
  have HC2 : Hid (Calls _ _ _ V _) := CO.out V HVV.out
  rw [show s.v = .agg #[.slice s.a s.n s.c, .slice s.b s.m s.d] from rfl]
  clear CC CO M1 b1 BV F1 X1 X2
  go_wp2_with fail
  rw [← hV]
  clear hV
  refine HC2.out.mono ?_
  rintro e w2 ⟨rfl, b2⟩
  have HB2 : Hid (Below W.heap.size W w2) := HBV.out.trans (b2.mono HBV.out.size)
  have HT2 : Hid (TM w2 W.heap.size s T) := HTV.out.later b2
  have X2 : Two w2 w1.heap.size (.slice s.a s.n s.c) (.slice s.b s.m s.d) := HXV.out.later b2 HXV.out.lt
  obtain ⟨-, T1, R1⟩ := HQ.out w2 HB2.out
  have x0 : w2.cell? ⟨w1.heap.size, 0, none⟩ = some (.slice s.a s.n s.c) := X2.cell 0
  have x1 : w2.cell? ⟨w1.heap.size, 1, none⟩ = some (.slice s.b s.m s.d) := X2.cell 1
  have u1 : w2.cell? ⟨w.heap.size + 1, 1, none⟩ = some (.slice ya T.colors.length yc) := T1.cell 1
  have r0 : w2.cell? ⟨w.heap.size + 2, 0, none⟩ = some (.slice none 0 0) := R1.cell 0
  have r1 : w2.cell? ⟨w.heap.size + 2, 1, none⟩ = some (.slice none 0 0) := R1.cell 1
  have z0 := R1.frozen 0
  have z1 := R1.frozen 1
  have HBs : Hid (W.heap.size = w.heap.size + 3) := HWs.out
  have H8 : Hid (H.objs.length = 8) := HOK.out.objs
  have hk : k < 8 := by have := HOK.out.hi; omega
  obtain ⟨sn, sm⟩ := HT2.out.lens
  rw [HOK.out.counts] at sn
  rw [HOK.out.colors] at sm
  have form : ∀ {a : Option Addr} {c : Nat} {zs : List Int}, ownI w2 W.heap.size (.slice a 8 c) zs → ∃ g, a = some ⟨g, 0, none⟩ := fun ho => by
    rcases ownI_form ho with ⟨h1, -⟩ | ⟨g, cap, h1, -⟩
    · simp at h1
    · simp only [Value.slice.injEq] at h1; exact ⟨g, h1.1⟩
  obtain ⟨sa', sn', c, sb', sm', d⟩ := s
  simp only at sn sm
  subst sn sm
  obtain ⟨ga, rfl⟩ := form HT2.out.x
  obtain ⟨gb, rfl⟩ := form HT2.out.y
  have hne : ga ≠ gb := fun e => HT2.out.dif ga rfl (by show some gb = some ga; rw [e])
  have la : ga < w2.heap.size := (ownI_lt HT2.out.x ga rfl).2
  have lb : gb < w2.heap.size := (ownI_lt HT2.out.y gb rfl).2
  have lga : W.heap.size ≤ ga := (ownI_lt HT2.out.x ga rfl).1
  have lgb : W.heap.size ≤ gb := (ownI_lt HT2.out.y gb rfl).1
  have b1 : BI w2 w2 W.heap.size ga gb c d T (.slice none 0 0) [] := ⟨Below.refl _ _, fun _ _ _ _ => rfl, HT2.out.x, HT2.out.y, hne, la, lb, HB2.out.size, ownI_nil _ _⟩
  obtain ⟨-, T1', -⟩ := HQ.out w2 HB2.out
  have hgx : w1.heap.size ≠ ga ∧ w1.heap.size ≠ gb := by
    have xk : w2.heap[w1.heap.size]? = some (.cells #[.slice (some ⟨ga, 0, none⟩) 8 c, .slice (some ⟨gb, 0, none⟩) 8 d] 77 (0, 0)) := X2
    obtain ⟨cu1, k1⟩ := row_kind HT2.out.x ga rfl
    obtain ⟨cu2, k2⟩ := row_kind HT2.out.y gb rfl
    exact ⟨fun e => kind_ne xk k1 (by decide) e, fun e => kind_ne xk k2 (by decide) e⟩
  have HQ2 : Hid (∀ X, (∀ g, g < w2.heap.size → g ≠ ga → g ≠ gb → X.heap[g]? = w2.heap[g]?) → Four X w.heap.size (.slice ao H.objs.length co) (.slice aw H.weaks.length cw) (.slice ab H.buffer.length cb) (.slice sa H.sites.length sc) ∧ Two X w1.heap.size (.slice (some ⟨ga, 0, none⟩) 8 c) (.slice (some ⟨gb, 0, none⟩) 8 d) ∧ Two X (w.heap.size + 2) (.slice none 0 0) (.slice none 0 0)) := by
    have e3 := HBs.out
    have e4 := HB2.out.size
    obtain ⟨p0, -, p2⟩ := HQ.out w2 HB2.out
    exact fun X hX => ⟨p0.same (hX _ (by omega) (by omega) (by omega)), X2.same (hX _ X2.lt hgx.1 hgx.2), p2.same (hX _ (by omega) (by omega) (by omega))⟩
  have HB0 : Hid (BI w2 (w2.alloc (.cells #[.int .i64 (k : Int)] 3)) W.heap.size ga gb c d T (.slice (some ⟨w2.heap.size, 0, none⟩) 1 1) [(k : Int)]) := by
    have b3 := bi_later b1 ((Below.refl _ _).alloc (Nat.le_refl _) (.cells #[.int .i64 (k : Int)] 3))
    have b4 := ownI_one w2 w2.heap.size (k : Int) (Nat.le_refl _)
    exact ⟨b3.bel, b3.oth, b3.x, b3.y, b3.ne, b3.la, b3.lb, b3.hB, b4⟩
  have HSL : Hid (Slots [(k : Int)]) := fun z hz => by rw [List.mem_singleton.1 hz]; omega
  have HRR : Hid (scanT H T (k : Int) = scanAll H T [(k : Int)]) := rfl
  have HM0 : Hid (nu (T, [(k : Int)]) ≤ 8388617) := by
    have h1 := colored_le 1 T.colors
    rw [HOK.out.colors] at h1
    show colored 1 T.colors * 1048577 + 1 ≤ 8388617
    omega
  have HBW2 : Hid (Below w.heap.size w w2) := HBW.out.trans (HB2.out.mono HBW.out.size)
  have h8c := HOK.out.colors
  have h8o := HOK.out.objs
  rw [h8o] at HQ2 HR
  rw [h8c, h8o]
  clear HQ HBW
  have HQ := HQ2
  have HBW := HBW2
  obtain ⟨R, hRG⟩ : ∃ R, scanT H T (k : Int) = R := ⟨_, rfl⟩
  have HRG : Hid (scanT H T (k : Int) = R) := hRG
  rw [hRG] at HRR
  clear hRG
  have HGX : Hid (W.heap.size ≤ w1.heap.size ∧ w1.heap.size ≠ ga ∧ w1.heap.size ≠ gb ∧ w1.heap.size < w2.heap.size) := ⟨HW1.out, hgx.1, hgx.2, X2.lt⟩
  obtain ⟨gx, hgx0⟩ : ∃ gx, w1.heap.size = gx := ⟨_, rfl⟩
  rw [hgx0] at HQ x0 x1 HGX ⊢
  obtain ⟨B, hBB⟩ : ∃ B, W.heap.size = B := ⟨_, rfl⟩
  rw [hBB] at HB0 HBs HGX
  clear f0 f1 f2 f3 t0 t1 g0 g1 n0 n1 T1 R1 X2 b2 HQ2 HBW2 T1' hgx b1 form HT2 HTV HXV HC2 hgx0 h8c h8o HRI la lb lga lgb hne HBV HW1 HVV HWs hBB HB2
  go_wp2
  go_loopw [8] (fun vq wr => ∃ (T' : TrialD) (todo : List Int) (qa : Option Addr) (qc : Nat), vq = .slice qa todo.length qc ∧ Hid (BI w2 wr B ga gb c d T' vq todo) ∧ Hid (Slots todo) ∧ Hid (nu (T', todo) ≤ 8388617) ∧ Hid (R = scanAll H T' todo)) (fun vq wr => lenV vq + 1048577 * graysAt wr gb)
  case atStart => exact ⟨_, [(k : Int)], _, 1, rfl, HB0, HSL, HM0, HRR⟩
  case round =>
    obtain ⟨T', todo, qa, qc, rfl, HI, HT, HMU, HRS⟩ := hrel
    obtain ⟨F0, X1, X2⟩ := HQ.out wr HI.out.oth
    rcases List.eq_nil_or_concat todo with rfl | ⟨rest, kz, rfl⟩
    · have HE : Hid (R = T') := by show _ = _; rw [HRS.out, scanAll_nil]
      have x0 : wr.cell? ⟨gx, 0, none⟩ = some (.slice (some ⟨ga, 0, none⟩) 8 c) := X1.cell 0
      have x1 : wr.cell? ⟨gx, 1, none⟩ = some (.slice (some ⟨gb, 0, none⟩) 8 d) := X1.cell 1
      have r0 : wr.cell? ⟨w.heap.size + 2, 0, none⟩ = some (.slice none 0 0) := X2.cell 0
      have r1 : wr.cell? ⟨w.heap.size + 2, 1, none⟩ = some (.slice none 0 0) := X2.cell 1
      have z0 := X2.frozen 0
      have z1 := X2.frozen 1
      have HFIN : Hid (TM (setTwo wr (w.heap.size + 2) (.slice (some ⟨ga, 0, none⟩) 8 c) (.slice (some ⟨gb, 0, none⟩) 8 d)) w.heap.size ⟨some ⟨ga, 0, none⟩, 8, c, some ⟨gb, 0, none⟩, 8, d⟩ R ∧ Below w.heap.size w (setTwo wr (w.heap.size + 2) (.slice (some ⟨ga, 0, none⟩) 8 c) (.slice (some ⟨gb, 0, none⟩) 8 d))) := by
        have e3 := HBs.out
        rw [HE.out]
        refine ⟨⟨ownI_mono (ownI_same HI.out.x (fun g hg => setTwo_other _ _ _ _ g (by have := (ownI_lt HI.out.x g hg).1; omega))) (by omega), ownI_mono (ownI_same HI.out.y (fun g hg => setTwo_other _ _ _ _ g (by have := (ownI_lt HI.out.y g hg).1; omega))) (by omega), fun g h1 h2 => ?_⟩, ?_⟩
        · have e1 : ga = g := by simpa [TSh.x, Value.ownBlock] using h1
          have e2 : gb = g := by simpa [TSh.y, Value.ownBlock] using h2
          exact HI.out.ne (by omega)
        · unfold setTwo
          exact ((HBW.out.trans (HI.out.bel.mono (by omega))).setCell (by simp) _).setCell (by simp) _
      clear F0 X1 X2 HI HRS
      go_wp2
      exact bodyPost_ret (v := .agg #[.slice (some ⟨ga, 0, none⟩) 8 c, .slice (some ⟨gb, 0, none⟩) 8 d]) (by simp [results, Try.results62, go_sem, *]) rfl ⟨⟨some ⟨ga, 0, none⟩, 8, c, some ⟨gb, 0, none⟩, 8, d⟩, rfl, by rw [HRG.out]; exact HFIN.out⟩
    · rw [List.concat_eq_append] at *
      obtain ⟨m, hm⟩ : ∃ m, rest.length = m := ⟨_, rfl⟩
      have hl : (rest ++ [kz]).length = m + 1 := by simp [hm]
      rw [hl] at HI ⊢
      obtain ⟨s, rfl⟩ : ∃ s : Nat, kz = (s : Int) := ⟨kz.toNat, by have := HT.out kz (by simp); omega⟩
      have hs8 : s < 8 := by have := HT.out (s : Int) (by simp); omega
      rcases ownI_form HI.out.q with ⟨h1, -⟩ | ⟨gq, cap, h1, hgq, hgl, hcap, hmax, HC⟩
      · simp at h1
      have e1 : qa = some ⟨gq, 0, none⟩ ∧ qc = cap := by simp only [Value.slice.injEq] at h1; exact ⟨h1.1, h1.2.2⟩
      obtain ⟨rfl, rfl⟩ := e1
      have hcell : wr.cell? ⟨gq, m, none⟩ = some (.int .i64 (s : Int)) := by
        have h2 := (HC.out m (by omega)).1
        rw [List.getElem_append_right (by omega)] at h2
        simpa using h2
      rw [hl] at hcap
      have HMU2 := HMU.out
      have hmb : m ≤ 8388616 := by simp only [nu, List.length_append, List.length_singleton] at HMU2; omega
      have HPOP : Hid (BI w2 wr B ga gb c d T' (.slice (some ⟨gq, 0, none⟩) m qc) rest) := bi_pop HI.out
      have hsl : s < H.objs.length := by have := H8.out; omega
      have HSN : Hid (R = scanAll H (scanS H T' rest (s : Int)).1 (scanS H T' rest (s : Int)).2) := by show _ = _; rw [HRS.out, scanAll_snoc H HS.out T' rest (s : Int) HI.out.eight HT.out]
      have HRO : Hid _ := scanS_ok H HS.out T' rest (s : Int) HI.out.eight HT.out
      have HMS : Hid (graysAt wr gb = colored 1 T'.colors) := graysAt_is HI.out
      have HRSL : Hid (Slots rest) := fun z hz => HT.out z (by simp [hz])
      have HE8 : Hid (Eight T') := HI.out.eight
      have hmeas : ∀ (X : World) (vq2 : Value) (T2 : TrialD) (td : List Int), BI w2 X B ga gb c d T2 vq2 td → lenV vq2 = td.length → nu (T2, td) < nu (T', rest ++ [(s : Int)]) → lenV vq2 + 1048577 * graysAt X gb < m + 1 + 1048577 * graysAt wr gb := fun X vq2 T2 td hb hl2 hlt => by
        rw [graysAt_is hb, HMS.out, hl2]
        simp only [nu, List.length_append, List.length_singleton, hm] at hlt
        omega
      have HMEAS : Hid _ := hmeas
      obtain ⟨ca0, fa0, cb0, fb0⟩ := bi_cells HI.out s hs8
      have x0 : wr.cell? ⟨gx, 0, none⟩ = some (.slice (some ⟨ga, 0, none⟩) 8 c) := X1.cell 0
      have x1 : wr.cell? ⟨gx, 1, none⟩ = some (.slice (some ⟨gb, 0, none⟩) 8 d) := X1.cell 1
      have f0 : wr.cell? ⟨w.heap.size, 0, none⟩ = some (.slice ao 8 co) := F0.cell 0
      have f1 : wr.cell? ⟨w.heap.size, 1, none⟩ = some (.slice aw H.weaks.length cw) := F0.cell 1
      have f2 : wr.cell? ⟨w.heap.size, 2, none⟩ = some (.slice ab H.buffer.length cb) := F0.cell 2
      have f3 : wr.cell? ⟨w.heap.size, 3, none⟩ = some (.slice sa H.sites.length sc) := F0.cell 3
      have HWB : Hid (w2.heap.size ≤ wr.heap.size) := HI.out.bel.size
      have hmc : (m : Int) ≤ (qc : Int) := by omega
      have hb1 : decide ((0 : Int) < (m : Int) + 1) = true := decide_eq_true (by omega)
      have hs8i : (s : Int) < 8 := by omega
      have HLR : Hid (rest.length = m) := hm
      have es : ((s : Int)).toNat = s := by omega
      have HX1 : Hid (Two wr gx (.slice (some ⟨ga, 0, none⟩) 8 c) (.slice (some ⟨gb, 0, none⟩) 8 d)) := X1
      have HDD : Hid (ownI wr B (.slice (some ⟨ga, 0, none⟩) 8 c) T'.counts ∧ ownI wr B (.slice (some ⟨gb, 0, none⟩) 8 d) T'.colors ∧ ga ≠ gb ∧ B ≤ wr.heap.size) := ⟨HI.out.x, HI.out.y, HI.out.ne, Nat.le_trans HI.out.hB HI.out.bel.size⟩
      unfold scanS at HSN HRO
      rw [es] at HSN HRO
      obtain ⟨qcol, hqcol⟩ : ∃ q, T'.colors.getD s 0 = q := ⟨_, rfl⟩
      obtain ⟨qcnt, hqcnt⟩ : ∃ q, T'.counts.getD s 0 = q := ⟨_, rfl⟩
      rw [hqcol] at HSN HRO cb0
      rw [hqcnt] at HSN HRO ca0
      clear F0 X1 X2 HI HRS HC hgl hgq hmax h1 hl HT hqcol hqcnt hm hmeas HMU2
      by_cases hgr : qcol = 1
      · rw [if_neg (by simpa using hgr)] at HSN HRO
        subst hgr
        by_cases hpo : 0 < qcnt
        · rw [if_pos hpo] at HSN HRO
          have CB : Hid (∀ _ : Unit, _) := fun (_ : Unit) => sBlack_calls _ H T' ga gb c d s B wr (fun X hX => HR.out X (HBW.out.trans ((HPOP.out.bel.trans hX).mono (by have := HBs.out; omega)))) HS.out H8.out HF.out HDD.out.1 HDD.out.2.1 HDD.out.2.2.1 HDD.out.2.2.2 hs8
          clear HDD
          go_wp2_with fail
          refine (CB.out ()).mono ?_
          rintro e w3 ⟨rfl, O3, O4, b3, oth3⟩
          have hgxs := HGX.out
          have h2s := HWB.out
          have T3 : Two w3 gx (.slice (some ⟨ga, 0, none⟩) 8 c) (.slice (some ⟨gb, 0, none⟩) 8 d) := HX1.out.same (oth3 gx (by omega) hgxs.2.1 hgxs.2.2.1)
          have HI3 : Hid (BI w2 w3 B ga gb c d (blackT H T' (s : Int)) (.slice (some ⟨gq, 0, none⟩) m qc) rest) := by
            have hp := HPOP.out
            refine ⟨hp.bel.trans b3, fun g h1 h2 h3 => (oth3 g (by omega) h2 h3).trans (hp.oth g h1 h2 h3), O3, O4, hp.ne, hp.la, hp.lb, hp.hB, ownI_same hp.q (fun g hg => ?_)⟩
            have hl2 := (ownI_lt hp.q g hg)
            have := hp.la
            have := hp.lb
            exact oth3 g hl2.2 (by omega) (by omega)
          have HI4 : Hid (BI w2 (setTwo w3 gx (.slice (some ⟨ga, 0, none⟩) 8 c) (.slice (some ⟨gb, 0, none⟩) 8 d)) B ga gb c d (blackT H T' (s : Int)) (.slice (some ⟨gq, 0, none⟩) m qc) rest) := bi_same HI3.out T3 hgxs.1 hgxs.2.1 hgxs.2.2.1 hgxs.2.2.2
          have y0 : w3.cell? ⟨gx, 0, none⟩ = _ := T3.cell 0
          have y1 : w3.cell? ⟨gx, 1, none⟩ = _ := T3.cell 1
          have z0 := T3.frozen 0
          have z1 := T3.frozen 1
          simp only [List.getElem?_toArray, List.getElem?_cons_zero, List.getElem?_cons_succ] at y0 y1
          have HMM : Hid (lenV (.slice (some ⟨gq, 0, none⟩) m qc) + 1048577 * graysAt (setTwo w3 gx (.slice (some ⟨ga, 0, none⟩) 8 c) (.slice (some ⟨gb, 0, none⟩) 8 d)) gb < m + 1 + 1048577 * graysAt wr gb) := HMEAS.out _ _ _ _ HI4.out (by show m = rest.length; rw [HLR.out]) HRO.out.2.2
          have HNU : Hid (nu (blackT H T' (s : Int), rest) ≤ 8388617) := by have h1 := HRO.out.2.2; have h2 := HMU.out; show _ ≤ _; exact Nat.le_of_lt (Nat.lt_of_lt_of_le h1 h2)
          unfold setTwo at HI4 HMM
          clear T3 O3 O4 b3 oth3 HI3 CB ca0 cb0 fa0 fb0 x0 x1 f0 f1 f2 f3 hcell
          go_wp2
          go_roundw
          case rel => exact ⟨_, rest, _, qc, by rw [HLR.out], HI4, HRSL, HNU, HSN⟩
          case measure => exact HMM.out
        · rw [if_neg hpo] at HSN HRO
          have HKS : Hid (kidsOf H (s : Int) = kidL H H.objs[s].field) := kidsOf_at H s hsl
          have hkl := Nat.le_trans (kidL_le H H.objs[s].field) (HS.out.fields _ (List.getElem_mem hsl))
          obtain ⟨V, hV⟩ : ∃ V, V = wr.setCell ⟨gb, s, none⟩ (.int .i64 2) := ⟨_, rfl⟩
          have HIV : Hid (BI w2 V B ga gb c d ⟨T'.counts, T'.colors.set s 2⟩ (.slice (some ⟨gq, 0, none⟩) m qc) rest) := by rw [hV]; exact bi_color HPOP.out s 2
          have CK : Hid (∀ _ : Unit, _) := fun (_ : Unit) => sKids_calls _ H s V (HR.out V (HBW.out.trans (HIV.out.bel.mono (by have := HBs.out; omega)))) HS.out hsl (HF.out _ (List.getElem_mem hsl))
          obtain ⟨F5, -, -⟩ := HQ.out V HIV.out.oth
          have k0 : V.cell? ⟨w.heap.size, 0, none⟩ = some (.slice ao 8 co) := F5.cell 0
          have k1 : V.cell? ⟨w.heap.size, 1, none⟩ = some (.slice aw H.weaks.length cw) := F5.cell 1
          have k2 : V.cell? ⟨w.heap.size, 2, none⟩ = some (.slice ab H.buffer.length cb) := F5.cell 2
          have k3 : V.cell? ⟨w.heap.size, 3, none⟩ = some (.slice sa H.sites.length sc) := F5.cell 3
          rw [hV] at k0 k1 k2 k3
          rw [HKS.out] at HSN HRO
          have HKSL : Hid (Slots (kidL H H.objs[s].field)) := kidL_slots H _
          generalize kidL H H.objs[s].field = ks at *
          have HVs : Hid (w2.heap.size ≤ V.heap.size) := HIV.out.bel.size
          clear F5 HDD HKS hsl f0 f1 f2 f3
          go_wp2_with fail
          rw [← hV]
          clear hV k0 k1 k2 k3 ca0 cb0 fa0 fb0 x0 x1 hcell
          refine (CK.out ()).mono ?_
          rintro e w3 ⟨vk, rfl, O3, b3⟩
          obtain ⟨ka, kc, rfl, -⟩ := rdI_own O3
          have HI3 : Hid (BI w2 w3 B ga gb c d ⟨T'.counts, T'.colors.set s 2⟩ (.slice (some ⟨gq, 0, none⟩) m qc) rest) := bi_later HIV.out b3
          have HK3 : Hid (ownI w3 V.heap.size (.slice ka ks.length kc) ks) := O3
          have hw3 : w2.heap.size ≤ w3.heap.size := HI3.out.bel.size
          clear O3 b3 HIV CK
          go_wp2_with (at_builtin; refine wpList_appendM rfl _ _ rfl w2.heap.size _ rest rfl HI3.out.q ka kc ks.length ks rfl rfl V.heap.size HK3.out ?hlen hw3 ?_)
          case hlen => rw [HLR.out]; omega
          intro v4 X4 O4 s4 H4 B4
          obtain ⟨qa4, qc4, rfl, -⟩ := rdI_own O4
          have HI5 : Hid (BI w2 X4 B ga gb c d ⟨T'.counts, T'.colors.set s 2⟩ (.slice qa4 (rest ++ ks).length qc4) (rest ++ ks)) := bi_push HI3.out H4.out B4.out O4
          have HMM : Hid (lenV (.slice qa4 (rest ++ ks).length qc4) + 1048577 * graysAt X4 gb < m + 1 + 1048577 * graysAt wr gb) := HMEAS.out _ _ _ _ HI5.out rfl HRO.out.2.2
          have HNU : Hid (nu ((⟨T'.counts, T'.colors.set s 2⟩ : TrialD), rest ++ ks) ≤ 8388617) := by have h1 := HRO.out.2.2; have h2 := HMU.out; show _ ≤ _; exact Nat.le_of_lt (Nat.lt_of_lt_of_le h1 h2)
          have HSL2 : Hid (Slots (rest ++ ks)) := HRO.out.2.1
          clear O4 s4 H4 B4 HI3 HK3
          go_wp2
          go_roundw
          case rel => exact ⟨_, rest ++ ks, _, qc4, rfl, HI5, HSL2, HNU, HSN⟩
          case measure => exact HMM.out
      · rw [if_pos (by simpa using hgr)] at HSN HRO
        have hgn : (qcol != 1) = true := by simpa using hgr
        have HMM : Hid (lenV (.slice (some ⟨gq, 0, none⟩) m qc) + 1048577 * graysAt wr gb < m + 1 + 1048577 * graysAt wr gb) := HMEAS.out _ _ _ _ HPOP.out (by show m = rest.length; rw [HLR.out]) HRO.out.2.2
        have HNU : Hid (nu (T', rest) ≤ 8388617) := by have h1 := HRO.out.2.2; have h2 := HMU.out; show _ ≤ _; exact Nat.le_of_lt (Nat.lt_of_lt_of_le h1 h2)
        clear HDD
        go_wp2
        go_roundw
        case rel => exact ⟨T', rest, _, qc, by rw [HLR.out], HPOP, HRSL, HNU, HSN⟩
        case measure => exact HMM.out
end Go.Proofs.Ytnjplfofcjonhaa

namespace Go.Proofs.Ytnjplfofcjonhaa
open Go.RowKit
set_option linter.unusedVariables false
set_option maxRecDepth 100000
theorem sNone3_calls (w : World) : Calls Try.prog 53 #[] w fun e w' => ∃ a c, e = .returned (.slice a 3 c) ∧ ownI w' w.heap.size (.slice a 3 c) [-1, -1, -1] ∧ Below w.heap.size w w' := by
  have O1 : ownI (w.alloc (.cells #[] 3)) w.heap.size (.slice (some ⟨w.heap.size, 0, none⟩) 0 0) [] := ownI_new _ _ (Nat.le_refl _)
  have B1 : Below w.heap.size w (w.alloc (.cells #[] 3)) := (Below.refl _ _).alloc (Nat.le_refl _) _
  go_enter Try.func53, Try.ntmps53
  go_wp2
  go_loopw [1, 2] (fun v i wr => ∃ (j : Nat), j ≤ 3 ∧ i = .int .i64 j ∧ ownI wr w.heap.size v (List.replicate j (-1)) ∧ Below w.heap.size w wr) (fun _ i _ => 3 - (intOf i).toNat)
  case atStart => exact ⟨0, by omega, rfl, O1, B1⟩
  case round =>
    obtain ⟨j, hj, rfl, hown, hb⟩ := hrel
    by_cases hlt : j < 3
    · go_wp2_with (at_builtin; refine wpList_appendI rfl _ _ rfl w.heap.size _ (List.replicate j (-1)) rfl (ownI_alloc _ hown) ⟨wr.heap.size, 0, none⟩ [-1] 1 1 rfl rfl ?hsrc ?hlen w (hb.alloc hb.size _) (Nat.le_refl _) ?_)
      case hsrc => exact src_int wr (-1)
      case hlen => rw [List.length_singleton, List.length_replicate]; omega
      · intro v4 w4 O4 B4
        have O5 : ownI w4 w.heap.size v4 (List.replicate (j + 1) (-1)) := by rw [List.replicate_succ']; exact O4
        go_wp2
        go_roundw
        case rel => exact ⟨j + 1, by omega, by go_num, O5, B4⟩
        case measure => simp [intOf]; omega
    · obtain rfl : j = 3 := by omega
      obtain ⟨a, c, hv, -⟩ := ownI_read hown
      rw [show (List.replicate 3 (-1 : Int)).length = 3 from rfl] at hv
      subst hv
      go_wp2
      go_ret
      exact ⟨a, c, rfl, hown, hb⟩
end Go.Proofs.Ytnjplfofcjonhaa

namespace Go.Proofs.Ytnjplfofcjonhaa
open Go.RowKit
set_option linter.unusedVariables false
set_option maxRecDepth 100000
theorem opFieldOb {t i : Tmp} {ty : TypeId} {pos : String} {af : Array Edge} {a : Act} {X : World} {K : Act → World → Prop} {Q : Exit → Act → World → Prop} {g p : Nat} (k : Nat) (hk : k < 6) (h1 : a.eval (.tmp i) = .pointer (some ⟨g, p, none⟩)) (hK : K (a.put (some t) (.pointer (some ⟨g, p + k, none⟩))) X) :
    Oper.wp Try.prog ⟨some t, .fieldAddr 39 (.tmp i) k, ty, pos, af, none⟩ a X K Q := by
  have h := ev_tmp h1
  match k, hk with
  | 0, _ => go_simp; exact hK
  | 1, _ => go_simp; exact hK
  | 2, _ => go_simp; exact hK
  | 3, _ => go_simp; exact hK
  | 4, _ => go_simp; exact hK
  | 5, _ => go_simp; exact hK
theorem opBuildE {t i j : Tmp} {ty : TypeId} {pos : String} {af : Array Edge} {a : Act} {X : World} {K : Act → World → Prop} {Q : Exit → Act → World → Prop} {z : Int} {x : Option Addr} {n c : Nat} (h1 : a.eval (.tmp i) = .int .i64 z) (h2 : a.eval (.tmp j) = .slice x n c) (hK : K (a.put (some t) (objV (emptyD z) (.slice x n c))) X) :
    Oper.wp Try.prog ⟨some t, .build 39 #[(1, .tmp i), (6, .tmp j)], ty, pos, af, none⟩ a X K Q := by
  have e1 := ev_tmp h1
  have e2 := ev_tmp h2
  unfold objV emptyD at hK
  go_simp; exact hK
theorem opStoreOb {i j : Tmp} {ty : TypeId} {pos : String} {af : Array Edge} {a : Act} {X : World} {K : Act → World → Prop} {Q : Exit → Act → World → Prop} {g p : Nat} {o o0 : ObjD} {f0 : Value} {x : Option Addr} {n c : Nat} (h1 : a.eval (.tmp i) = .pointer (some ⟨g, p, none⟩)) (h2 : a.eval (.tmp j) = objV o (.slice x n c)) (ho : ObjAt X g p o0 f0) (hz : ∀ q, q < 8 → X.frozen? ⟨g, p + q, none⟩ = false) (hK : K a (setObj X g p o (.slice x n c))) :
    Oper.wp Try.prog ⟨none, .store 39 (.tmp i) (.tmp j), ty, pos, af, none⟩ a X K Q := by
  have e1 := ev_tmp h1
  have e2 := ev_tmp h2
  obtain ⟨c0, c1, c2, c3, c4, c5, c6, c7⟩ := ho
  have z0 := hz 0 (by omega)
  have z1 := hz 1 (by omega)
  have z2 := hz 2 (by omega)
  have z3 := hz 3 (by omega)
  have z4 := hz 4 (by omega)
  have z5 := hz 5 (by omega)
  have z6 := hz 6 (by omega)
  have z7 := hz 7 (by omega)
  rw [Nat.add_zero] at z0
  unfold setObj at hK
  unfold objV at e2
  clear hz
  go_simp; exact hK
theorem opNoneC {t : Tmp} {ty : TypeId} {pos : String} {af : Array Edge} {ats : Array TypeId} {a : Act} {X : World} {K : Act → World → Prop} {Q : Exit → Act → World → Prop} {post : Ending → World → Prop} (hC : Calls Try.prog 53 #[] X post) (hK : ∀ e w', post e w' → ∃ x, e = .returned x ∧ K (a.put (some t) x) w') :
    Oper.wp Try.prog ⟨some t, .call { callee := .value (.func 53), args := #[], argTypes := ats }, ty, pos, af, none⟩ a X K Q := by
  go_simp
  refine hC.mono (fun e w' hp => ?_)
  obtain ⟨x, rfl, hx⟩ := hK e w' hp
  exact hx
theorem opCallEd {t i j : Tmp} {ty : TypeId} {pos : String} {af : Array Edge} {ats : Array TypeId} {a : Act} {X : World} {K : Act → World → Prop} {Q : Exit → Act → World → Prop} {u v : Value} {post : Ending → World → Prop} (h1 : a.eval (.tmp i) = u) (h2 : a.eval (.tmp j) = v) (hC : Calls Try.prog 42 #[u, v] X post) (hK : ∀ e w', post e w' → ∃ x, e = .returned x ∧ K (a.put (some t) x) w') :
    Oper.wp Try.prog ⟨some t, .call { callee := .value (.func 42), args := #[.tmp i, .tmp j], argTypes := ats }, ty, pos, af, none⟩ a X K Q := by
  have e1 := ev_tmp h1
  have e2 := ev_tmp h2
  go_simp
  refine hC.mono (fun e w' hp => ?_)
  obtain ⟨x, rfl, hx⟩ := hK e w' hp
  exact hx
theorem opAddI {t i j : Tmp} {ty : TypeId} {pos : String} {af : Array Edge} {a : Act} {X : World} {K : Act → World → Prop} {Q : Exit → Act → World → Prop} {x y : Int} (h1 : a.eval (.tmp i) = .int .i64 x) (h2 : a.eval (.tmp j) = .int .i64 y) (hK : K (a.put (some t) (.int .i64 (IntKind.i64.wrap (x + y)))) X) :
    Oper.wp Try.prog ⟨some t, .binOp .add 3 (.tmp i) (.tmp j) 3, ty, pos, af, none⟩ a X K Q := by
  have e1 := ev_tmp h1
  have e2 := ev_tmp h2
  go_simp; exact hK
end Go.Proofs.Ytnjplfofcjonhaa

namespace Go.Proofs.Ytnjplfofcjonhaa
open Go.RowKit
set_option linter.unusedVariables false
set_option maxRecDepth 100000
theorem opIndexIo {t i j : Tmp} {ty : TypeId} {pos : String} {af : Array Edge} {a : Act} {X : World} {K : Act → World → Prop} {Q : Exit → Act → World → Prop} {g off n c k : Nat} (h1 : a.eval (.tmp i) = .slice (some ⟨g, off, none⟩) n c) (h2 : a.eval (.tmp j) = .int .i64 (k : Int)) (hk : k < n) (hK : K (a.put (some t) (.pointer (some ⟨g, off + k, none⟩))) X) :
    Oper.wp Try.prog ⟨some t, .indexAddr 26 (.tmp i) (.tmp j), ty, pos, af, none⟩ a X K Q := by
  have e1 := ev_tmp h1
  have e2 := ev_tmp h2
  go_simp; exact hK
theorem opCallSs {t i j : Tmp} {ty : TypeId} {pos : String} {af : Array Edge} {ats : Array TypeId} {a : Act} {X : World} {K : Act → World → Prop} {Q : Exit → Act → World → Prop} {u v : Value} {post : Ending → World → Prop} (h1 : a.eval (.tmp i) = u) (h2 : a.eval (.tmp j) = v) (hC : Calls Try.prog 11 #[u, v] X post) (hK : ∀ e w', post e w' → ∃ x, e = .returned x ∧ K (a.put (some t) x) w') :
    Oper.wp Try.prog ⟨some t, .call { callee := .value (.func 11), args := #[.tmp i, .tmp j], argTypes := ats }, ty, pos, af, none⟩ a X K Q := by
  have e1 := ev_tmp h1
  have e2 := ev_tmp h2
  go_simp
  refine hC.mono (fun e w' hp => ?_)
  obtain ⟨x, rfl, hx⟩ := hK e w' hp
  exact hx
def RZ (B : Nat) (vh vt p3 v4 v5 p6 v7 v8 : Value) (G : TrialD) : Nat → World → Value → Prop
  | 0, _, v => v = vh
  | 1, _, v => v = vt
  | 2, _, v => v = vh
  | 3, _, v => v = p3
  | 4, _, v => v = v4
  | 5, _, v => v = v5
  | 6, _, v => v = p6
  | 7, _, v => v = v7
  | 8, _, v => v = v8
  | 9, X, v => ∃ s : TSh, v = s.v ∧ TM X B s G
  | _, _, _ => True
theorem rs2_mono {B : Nat} {vh vt p3 v4 v5 p6 v7 v8 : Value} {G : TrialD} (i : Nat) (X Y : World) (v : Value) (h : RZ B vh vt p3 v4 v5 p6 v7 v8 G i X v) (hb : Below X.heap.size X Y) : RZ B vh vt p3 v4 v5 p6 v7 v8 G i Y v := by
  match i, h with
  | 0, h => exact h
  | 1, h => exact h
  | 2, h => exact h
  | 3, h => exact h
  | 4, h => exact h
  | 5, h => exact h
  | 6, h => exact h
  | 7, h => exact h
  | 8, h => exact h
  | 9, ⟨s, h1, h2⟩ => exact ⟨s, h1, h2.later hb⟩
  | n + 10, _ => exact trivial
structure SG (V wr : World) (gt : Nat) (q : TSh) (T : TrialD) : Prop where
  bel : Below V.heap.size V wr
  t : Two wr gt (.slice q.a q.n q.c) (.slice q.b q.m q.d)
  lo : V.heap.size ≤ gt
  tm : TM wr V.heap.size q T
theorem sg_set {V wr X : World} {gt : Nat} {q q2 : TSh} {T T2 : TrialD} (h : SG V wr gt q T) (hX : Below wr.heap.size wr X) (hT : TM X V.heap.size q2 T2) : SG V (setTwo X gt (.slice q2.a q2.n q2.c) (.slice q2.b q2.m q2.d)) gt q2 T2 := by
  have ht := h.t.later hX h.t.lt
  have oth : ∀ g, g ≠ gt → (setTwo X gt (.slice q2.a q2.n q2.c) (.slice q2.b q2.m q2.d)).heap[g]? = X.heap[g]? := fun g hg => setTwo_other _ _ _ _ g hg
  refine ⟨?_, two_set ht _ _, h.lo, ⟨ownI_same hT.x (fun i hi => oth i (fun e => own_two_ne hT.x ht (e ▸ hi))), ownI_same hT.y (fun i hi => oth i (fun e => own_two_ne hT.y ht (e ▸ hi))), hT.dif⟩⟩
  unfold setTwo
  exact ((h.bel.trans (hX.mono h.bel.size)).setCell (p := ⟨gt, 0, none⟩) h.lo _).setCell (p := ⟨gt, 1, none⟩) h.lo _
theorem sGrayF (H : HeapD) (T : TrialD) (id : Int) (X : World) (a b : Value) (r : RdH X a H) (rt : RdT X b T) (hs : SmallH H) (hT : Eight T) (h8 : H.objs.length = 8) (hf : ∀ o ∈ H.objs, ∀ z ∈ o.field, in64 z) :
    Calls Try.prog 61 #[a, b, .int .i64 (slotZ H id)] X fun e w' => ∃ s : TSh, e = .returned s.v ∧ TM w' X.heap.size s (grayF H T id) ∧ Below X.heap.size X w' := by
  have hst : SmallT T := ⟨by rw [hT.1]; omega, by rw [hT.2]; omega⟩
  unfold grayF
  have hiff := okT_of_slot H T id hT h8
  have hr := slotZ_range H id
  by_cases h0 : 0 ≤ slotZ H id
  · have hok := hiff.2 h0
    rw [if_pos h0]
    obtain ⟨k, hk⟩ : ∃ k : Nat, slotZ H id = (k : Int) := ⟨(slotZ H id).toNat, by omega⟩
    rw [hk] at hok ⊢
    have ek : ((k : Int)).toNat = k := by omega
    rw [ek]
    unfold paintT
    by_cases hg : col T k = 1
    · rw [if_pos hg]
      exact sGray_no a b H T _ X r rt hs hst (.inr (by rw [ek]; exact hg))
    · rw [if_neg hg]
      have hh := sGray_yes a b H T k X r rt hs hst hf hok hg
      unfold grayT at hh
      rw [ek] at hh
      exact hh
  · rw [if_neg h0]
    exact sGray_no a b H T _ X r rt hs hst (.inl (fun h => h0 (hiff.1 h)))
theorem sScanF (H : HeapD) (T : TrialD) (id : Int) (X : World) (a b : Value) (r : RdH X a H) (rt : RdT X b T) (hs : SmallH H) (hT : Eight T) (h8 : H.objs.length = 8) (hf : ∀ o ∈ H.objs, ∀ z ∈ o.field, in64 z) :
    Calls Try.prog 62 #[a, b, .int .i64 (slotZ H id)] X fun e w' => ∃ s : TSh, e = .returned s.v ∧ TM w' X.heap.size s (scanF H T id) ∧ Below X.heap.size X w' := by
  have hst : SmallT T := ⟨by rw [hT.1]; omega, by rw [hT.2]; omega⟩
  unfold scanF
  have hiff := okT_of_slot H T id hT h8
  by_cases h0 : 0 ≤ slotZ H id
  · have hok := hiff.2 h0
    rw [if_pos h0]
    obtain ⟨k, hk⟩ : ∃ k : Nat, slotZ H id = (k : Int) := ⟨(slotZ H id).toNat, by omega⟩
    rw [hk] at hok ⊢
    exact sScan_yes a b H T k X r rt hs hst hf hok
  · rw [if_neg h0]
    exact sScan_no a b H T _ X r rt hs hst (fun h => h0 (hiff.1 h))
def cup (H : HeapD) (j : Nat) : HeapD := { H with objs := upTo (collO (suspT H)) j H.objs }
theorem cup_len (H : HeapD) (j : Nat) : (cup H j).objs.length = H.objs.length := upTo_length _ _ _
theorem cup_zero (H : HeapD) : cup H 0 = H := by unfold cup; rw [upTo_zero]
theorem cup_at (H : HeapD) (j : Nat) (h : j < H.objs.length) : (cup H j).objs[j]'(by rw [cup_len]; exact h) = H.objs[j] := by
  have := upTo_get (collO (suspT H)) j j H.objs h
  rw [if_neg (Nat.lt_irrefl _)] at this
  exact this
theorem cup_no (H : HeapD) (j : Nat) (h : j < H.objs.length) (hb : isW (suspT H) j = false) : ({ cup H j with objs := (cup H j).objs.set j { H.objs[j] with purple := false } } : HeapD) = cup H (j + 1) := by
  unfold cup
  rw [upTo_step _ _ _ h]
  have e : collO (suspT H) j H.objs[j] = { H.objs[j] with purple := false } := by unfold collO; rw [if_neg (by simp [hb])]
  rw [e]
theorem cup_yes (H : HeapD) (j : Nat) (h : j < H.objs.length) (hb : isW (suspT H) j = true) (o : ObjD) : setO ({ cup H j with objs := (cup H j).objs.set j o } : HeapD) j (emptyD H.objs[j].gen) = cup H (j + 1) := by
  unfold cup setO
  rw [upTo_step _ _ _ h]
  have e : collO (suspT H) j H.objs[j] = emptyD H.objs[j].gen := by unfold collO; rw [if_pos hb]
  rw [e]
  simp
def kup (H : HeapD) (j : Nat) : HeapD := { coll1 H with objs := upTo (made2 (coll1 H)) j (coll1 H).objs }
theorem coll1_len (H : HeapD) : (coll1 H).objs.length = H.objs.length := by simp [coll1]
theorem kup_len (H : HeapD) (j : Nat) : (kup H j).objs.length = H.objs.length := by unfold kup; rw [upTo_length, coll1_len]
theorem cup_kup (H : HeapD) (j : Nat) (h : H.objs.length ≤ j) : cup H j = kup H 0 := by
  unfold cup kup
  rw [upTo_all _ _ _ h, upTo_zero]
  rfl
theorem kup_end (H : HeapD) (j : Nat) (h : H.objs.length ≤ j) : ({ kup H j with buffer := [] } : HeapD) = collH H := by
  unfold kup collH
  rw [upTo_all _ _ _ (by rw [coll1_len]; exact h)]
  rfl
theorem kup_at (H : HeapD) (j : Nat) (h : j < H.objs.length) : (kup H j).objs[j]'(by rw [kup_len]; exact h) = (coll1 H).objs[j]'(by rw [coll1_len]; exact h) := by
  have := upTo_get (made2 (coll1 H)) j j (coll1 H).objs (by rw [coll1_len]; exact h)
  rw [if_neg (Nat.lt_irrefl _)] at this
  exact this
theorem made2_alike (K : HeapD) (i : Nat) (o : ObjD) : Alike3 (made2 K i o) o := by
  unfold made2
  split <;> exact ⟨rfl, rfl, rfl⟩
theorem kup_alike (H : HeapD) (j : Nat) : ∀ i (h1 : i < (kup H j).objs.length) (h2 : i < (coll1 H).objs.length), Alike3 (kup H j).objs[i] (coll1 H).objs[i] := by
  intro i h1 h2
  have e : (kup H j).objs[i] = if i < j then made2 (coll1 H) i (coll1 H).objs[i] else (coll1 H).objs[i] := upTo_get (made2 (coll1 H)) j i (coll1 H).objs h2
  rw [e]
  split
  · exact made2_alike _ _ _
  · exact ⟨rfl, rfl, rfl⟩
theorem kup_no (H : HeapD) (j : Nat) (h : j < (coll1 H).objs.length) (hb : (coll1 H).objs[j].live = false) : kup H (j + 1) = kup H j := by
  unfold kup
  rw [upTo_step _ _ _ h]
  have e : made2 (coll1 H) j (coll1 H).objs[j] = (coll1 H).objs[j] := by unfold made2; rw [if_neg (by simp [hb])]
  rw [e]
  have e2 := upTo_get (made2 (coll1 H)) j j (coll1 H).objs h
  rw [if_neg (Nat.lt_irrefl _)] at e2
  have e3 : (upTo (made2 (coll1 H)) j (coll1 H).objs).set j (coll1 H).objs[j] = upTo (made2 (coll1 H)) j (coll1 H).objs := by
    conv => lhs; rw [← e2]
    exact List.set_getElem_self _
  rw [e3]
theorem kup_yes (H : HeapD) (j : Nat) (h : j < (coll1 H).objs.length) (hb : (coll1 H).objs[j].live = true) : ({ kup H j with objs := (kup H j).objs.set j { (coll1 H).objs[j] with count := madeZ (coll1 H) (j : Int) (coll1 H).objs[j] } } : HeapD) = kup H (j + 1) := by
  unfold kup
  rw [upTo_step _ _ _ h]
  have e : made2 (coll1 H) j (coll1 H).objs[j] = { (coll1 H).objs[j] with count := madeZ (coll1 H) (j : Int) (coll1 H).objs[j] } := by unfold made2; rw [if_pos hb]
  rw [e]
theorem coll1_small {H : HeapD} (hs : SmallH H) : SmallH (coll1 H) := by
  refine ⟨by rw [coll1_len]; exact hs.objs, fun z hz => ?_, hs.weaks, hs.buffer, hs.sites, hs.names⟩
  obtain ⟨i, hi, rfl⟩ := List.getElem_of_mem hz
  have hi2 : i < H.objs.length := by rw [coll1_len] at hi; exact hi
  have e : (coll1 H).objs[i] = collO (suspT H) i H.objs[i] := by simp [coll1]
  rw [e]
  unfold collO
  split
  · show ([-1, -1, -1] : List Int).length ≤ _; simp
  · exact hs.fields H.objs[i] (List.getElem_mem hi2)
theorem kup_small {H : HeapD} (hs : SmallH H) (j : Nat) : SmallH (kup H j) :=
  small_alike (coll1_small hs) (by rw [kup_len, coll1_len]) (kup_alike H j) rfl (coll1_small hs).buffer rfl
theorem kup_edges (H : HeapD) (j : Nat) (z : Int) : inEdges (kup H j) z = inEdges (coll1 H) z := inEdges_alike (by rw [kup_len, coll1_len]) (kup_alike H j) z
theorem coll_parts (H : HeapD) (hT : Eight (suspT H)) : ∃ (isB : Nat → Bool) (tl : Nat → List Int), whites (suspT H) = tl 0 ∧ (∀ j : Nat, j < 8 → tl j = if isB j = true then (j : Int) :: tl (j + 1) else tl (j + 1)) ∧ tl 8 = [] ∧ (∀ j : Nat, j < 8 → decide ((j : Int) ∈ whites (suspT H)) = isB j) ∧ ∀ j, isB j = isW (suspT H) j := by
  refine ⟨isW (suspT H), fun j => whiteL ((suspT H).colors.drop j) (j : Int), ?_, fun j hj => ?_, white_end _ _ (by rw [hT.2]; omega) _, fun j hj => ?_, fun _ => rfl⟩
  · show whites (suspT H) = whiteL ((suspT H).colors.drop 0) ((0 : Nat) : Int)
    rw [List.drop_zero]; rfl
  · have hj2 : j < (suspT H).colors.length := by rw [hT.2]; exact hj
    have e : (isW (suspT H) j = true) = ((suspT H).colors[j] = 2) := by
      unfold isW
      rw [decide_eq_true_eq, List.getD_eq_getElem?_getD, List.getElem?_eq_getElem hj2]; rfl
    show whiteL ((suspT H).colors.drop j) (j : Int) = _
    rw [white_step _ j hj2]
    simp only [e]
  · have h := whites_mem (suspT H) hT j hj
    cases hb : isW (suspT H) j with
    | true => exact decide_eq_true (h.2 hb)
    | false => exact decide_eq_false (fun hm => by rw [h.1 hm] at hb; cases hb)
theorem genAt_of (H : HeapD) (j : Nat) (h : j < H.objs.length) : genAt H (j : Int) = H.objs[j].gen := by
  unfold genAt
  rw [show ((j : Int)).toNat = j from by omega, List.getElem?_eq_getElem h]
theorem opIndexOo {t i j : Tmp} {ty : TypeId} {pos : String} {af : Array Edge} {a : Act} {X : World} {K : Act → World → Prop} {Q : Exit → Act → World → Prop} {g off n c k : Nat} (h1 : a.eval (.tmp i) = .slice (some ⟨g, off, none⟩) n c) (h2 : a.eval (.tmp j) = .int .i64 (k : Int)) (hk : k < n) (hK : K (a.put (some t) (.pointer (some ⟨g, off + k * 8, none⟩))) X) :
    Oper.wp Try.prog ⟨some t, .indexAddr 24 (.tmp i) (.tmp j), ty, pos, af, none⟩ a X K Q := by
  have e1 := ev_tmp h1
  have e2 := ev_tmp h2
  go_simp; exact hK
def RE (B gx go oc hb hg ho hc j : Nat) (og : Int) : Nat → World → Value → Prop
  | 0, _, v => v = .pointer (some ⟨gx, 0, none⟩)
  | 1, _, v => v = .slice (some ⟨go, 0, none⟩) 8 oc
  | 2, _, v => v = .int .i64 (j : Int)
  | 3, _, v => v = .pointer (some ⟨hb, 0, none⟩)
  | 4, _, v => v = .slice (some ⟨hg, ho, none⟩) 8 hc
  | 5, _, v => v = .int .i64 (j : Int)
  | 6, _, v => v = .pointer (some ⟨hg, ho + j * 8, none⟩)
  | 7, _, v => v = .pointer (some ⟨hg, ho + j * 8 + 1, none⟩)
  | 8, _, v => v = .int .i64 og
  | 9, X, v => ∃ a c, v = .slice a 3 c ∧ ownI X B (.slice a 3 c) [-1, -1, -1]
  | 10, X, v => ∃ a c, v = objV (emptyD og) (.slice a 3 c) ∧ ownI X B (.slice a 3 c) [-1, -1, -1]
  | 11, _, v => v = .pointer (some ⟨go, j * 8, none⟩)
  | _, _, _ => True
theorem re_mono {B gx go oc hb hg ho hc j : Nat} {og : Int} (i : Nat) (X Y : World) (v : Value) (h : RE B gx go oc hb hg ho hc j og i X v) (hY : Below X.heap.size X Y) : RE B gx go oc hb hg ho hc j og i Y v := by
  match i, h with
  | 0, h => exact h
  | 1, h => exact h
  | 2, h => exact h
  | 3, h => exact h
  | 4, h => exact h
  | 5, h => exact h
  | 6, h => exact h
  | 7, h => exact h
  | 8, h => exact h
  | 9, ⟨a, c, h1, h2⟩ => exact ⟨a, c, h1, ownI_later h2 hY⟩
  | 10, ⟨a, c, h1, h2⟩ => exact ⟨a, c, h1, ownI_later h2 hY⟩
  | 11, h => exact h
  | n + 12, _ => exact trivial
def RM (gx go oc j : Nat) (hv : Value) (hl rt ie : Int) : Nat → World → Value → Prop
  | 0, _, v => v = .pointer (some ⟨gx, 0, none⟩)
  | 1, _, v => v = .slice (some ⟨go, 0, none⟩) 8 oc
  | 2, _, v => v = .int .i64 (j : Int)
  | 3, _, v => v = .pointer (some ⟨gx, 0, none⟩)
  | 4, _, v => v = .slice (some ⟨go, 0, none⟩) 8 oc
  | 5, _, v => v = .int .i64 (j : Int)
  | 6, _, v => v = .pointer (some ⟨go, j * 8, none⟩)
  | 7, _, v => v = .pointer (some ⟨go, j * 8 + 3, none⟩)
  | 8, _, v => v = .int .i64 hl
  | 9, _, v => v = .pointer (some ⟨gx, 0, none⟩)
  | 10, _, v => v = .slice (some ⟨go, 0, none⟩) 8 oc
  | 11, _, v => v = .int .i64 (j : Int)
  | 12, _, v => v = .pointer (some ⟨go, j * 8, none⟩)
  | 13, _, v => v = .pointer (some ⟨go, j * 8 + 4, none⟩)
  | 14, _, v => v = .int .i64 rt
  | 15, _, v => v = .int .i64 (IntKind.i64.wrap (hl + rt))
  | 16, _, v => v = hv
  | 17, _, v => v = .int .i64 (j : Int)
  | 18, _, v => v = .int .i64 ie
  | 19, _, v => v = .int .i64 (IntKind.i64.wrap (IntKind.i64.wrap (hl + rt) + ie))
  | 20, _, v => v = .pointer (some ⟨go, j * 8, none⟩)
  | 21, _, v => v = .pointer (some ⟨go, j * 8 + 5, none⟩)
  | _, _, _ => True
theorem rm_mono {gx go oc j : Nat} {hv : Value} {hl rt ie : Int} (i : Nat) (X Y : World) (v : Value) (h : RM gx go oc j hv hl rt ie i X v) (hY : Below X.heap.size X Y) : RM gx go oc j hv hl rt ie i Y v := by
  match i, h with
  | 0, h => exact h
  | 1, h => exact h
  | 2, h => exact h
  | 3, h => exact h
  | 4, h => exact h
  | 5, h => exact h
  | 6, h => exact h
  | 7, h => exact h
  | 8, h => exact h
  | 9, h => exact h
  | 10, h => exact h
  | 11, h => exact h
  | 12, h => exact h
  | 13, h => exact h
  | 14, h => exact h
  | 15, h => exact h
  | 16, h => exact h
  | 17, h => exact h
  | 18, h => exact h
  | 19, h => exact h
  | 20, h => exact h
  | 21, h => exact h
  | n + 22, _ => exact trivial
set_option maxHeartbeats 16000000 in
theorem sCollect_yes (v : Value) (H : HeapD) (w : World) (h : RdH w v H) (hs : SmallH H) (h8 : H.objs.length = 8) (hf : ∀ o ∈ H.objs, ∀ z ∈ o.field, in64 z) (hbf : ∀ z ∈ H.buffer, in64 z) :
    Calls Try.prog 19 #[v] w fun e w' => ∃ (s : HSh) (vf : Value), e = .returned (.tuple #[s.v, vf]) ∧ HM w' w.heap.size s (collH H) ∧ ownI w' w.heap.size vf (collF H) ∧ (∀ g, vf.ownBlock = some g → ¬ HasB s g) ∧ Below w.heap.size w w' := by
  have HRH : Hid (∀ X, Below w.heap.size w X → RdH X v H) := fun X hX => rdH_later h hX
  have CC : Hid (∀ X, Below w.heap.size w X → _) := fun X hX => sCopy_calls v H X (HRH.out X hX) hs
  have CN : Hid (∀ X, Below w.heap.size w X → _) := fun X hX => sTrialNew_calls v H X (HRH.out X hX) hs
  have HSM : Hid (SmallH H) := hs
  have HL8 : Hid (H.objs.length = 8) := h8
  have HF : Hid (∀ o ∈ H.objs, ∀ z ∈ o.field, in64 z) := hf
  have HBF : Hid (∀ z ∈ H.buffer, in64 z) := hbf
  have hbl := hs.buffer
  obtain ⟨ao, co, aw, cw, ab, cb, sa, sc, rfl, ro, -, ri, -⟩ := h
  have HRB : Hid (∀ X, Below w.heap.size w X → RdI X ab H.buffer) := fun X hX => rdI_later ri hX
  have HRO : Hid (RdO w ao H.objs) := ro
  obtain ⟨nb, hnb⟩ : ∃ nb, H.buffer.length = nb := ⟨_, rfl⟩
  have HLB : Hid (H.buffer.length = nb) := hnb
  have HG0 : Hid (suspG H 0 = trialNew H) := suspG_zero H
  have HS0 : Hid (suspS H 0 = suspG H nb) := by show _ = _; rw [← hnb]; exact suspS_zero H
  have HSE : Hid (suspT H = suspS H nb) := by show _ = _; rw [← hnb]; rfl
  rw [h8, hnb] at HRH CC CN ⊢
  rw [hnb] at hbl
  generalize H.weaks.length = nw at *
  generalize H.sites.length = ns at *
  obtain ⟨W, hW⟩ : ∃ W, W = (w.alloc (.cells #[.slice ao 8 co, .slice aw nw cw, .slice ab nb cb, .slice sa ns sc] 29)).alloc (.cells #[.slice none 0 0, .slice none 0 0, .slice none 0 0, .slice none 0 0] 29) := ⟨_, rfl⟩
  have BW : Below w.heap.size w W := by rw [hW]; exact ((Below.refl _ _).alloc (Nat.le_refl _) _).alloc (by simp) _
  have sW : W.heap.size = w.heap.size + 2 := by rw [hW]; simp
  have FH : Four W w.heap.size (.slice ao 8 co) (.slice aw nw cw) (.slice ab nb cb) (.slice sa ns sc) := by
    have f := Four.new w (.slice ao 8 co) (.slice aw nw cw) (.slice ab nb cb) (.slice sa ns sc)
    have f2 := f.later ((Below.refl _ _).alloc (Nat.le_refl _) (.cells #[.slice none 0 0, .slice none 0 0, .slice none 0 0, .slice none 0 0] 29))
    rw [hW]; exact f2
  have FR : Four W (w.heap.size + 1) (.slice none 0 0) (.slice none 0 0) (.slice none 0 0) (.slice none 0 0) := by
    have f := Four.new (w.alloc (.cells #[.slice ao 8 co, .slice aw nw cw, .slice ab nb cb, .slice sa ns sc] 29)) (.slice none 0 0) (.slice none 0 0) (.slice none 0 0) (.slice none 0 0)
    rw [← hW] at f
    simpa using f
  have HFW : Hid (∀ X, Below W.heap.size W X → Four X w.heap.size (.slice ao 8 co) (.slice aw nw cw) (.slice ab nb cb) (.slice sa ns sc)) := fun X hX => FH.later hX
  have HFR : Hid (Four W (w.heap.size + 1) (.slice none 0 0) (.slice none 0 0) (.slice none 0 0) (.slice none 0 0)) := FR
  have HBW : Hid (Below w.heap.size w W) := BW
  have HsW : Hid (W.heap.size = w.heap.size + 2) := sW
  clear hs h8 hf hbf hnb ro ri FR
  go_enter Try.func19, Try.ntmps19
  go_wp2_with fail
  rw [← hW]
  clear hW
  refine (CC.out _ BW).mono ?_
  rintro e w1 ⟨s0, rfl, M1, b1⟩
  have hs1 := b1.size
  obtain ⟨V, hV⟩ : ∃ V, V = w1.alloc (.cells #[.slice s0.oa s0.os.length s0.oc, .slice s0.wa s0.wn s0.wc, .slice s0.ba s0.bn s0.bc, .slice s0.sa s0.sn s0.sc] 29) := ⟨_, rfl⟩
  obtain ⟨V2, hV2⟩ : ∃ V2, V2 = V.alloc (.cells #[] 3) := ⟨_, rfl⟩
  have BV : Below w1.heap.size w1 V := by rw [hV]; exact (Below.refl _ _).alloc (Nat.le_refl _) _
  have sV : V.heap.size = w1.heap.size + 1 := by rw [hV]; simp
  have BV2 : Below V.heap.size V V2 := by rw [hV2]; exact (Below.refl _ _).alloc (Nat.le_refl _) _
  have sV2 : V2.heap.size = w1.heap.size + 2 := by rw [hV2]; simp [sV]
  have bb : Below W.heap.size W V := b1.trans (BV.mono b1.size)
  have HLS0 : Hid (LS W V2 W.heap.size w1.heap.size s0 H (.slice none 0 0) (.slice (some ⟨V.heap.size, 0, none⟩) 0 0) [] []) := by
    have l : LS W V W.heap.size w1.heap.size s0 H (.slice none 0 0) (.slice none 0 0) [] [] :=
      ⟨bb, Nat.le_refl _, hm_later M1 BV, by rw [hV]; exact Four.new w1 _ _ _ _, hs1, fun hh => by have := (hm_bl M1 hh).2; omega, .inl ⟨rfl, rfl⟩, ownI_nil _ _, fun g hg => (by simp [Value.ownBlock] at hg), fun g hg => (by simp [Value.ownBlock] at hg), fun g hg => (by simp [Value.ownBlock] at hg)⟩
    refine ls_fr l (l.bel.trans (BV2.mono l.le)) BV2.size (fun i hi _ => BV2.block i hi) _ [] ?_ (.inr ⟨V.heap.size, rfl, Nat.le_refl _⟩)
    rw [hV2]; exact ownI_new _ _ l.le
  rw [sV] at HLS0
  have F1 := FH.later b1
  have c0 : w1.cell? ⟨w.heap.size, 0, none⟩ = some (.slice ao 8 co) := F1.cell 0
  have c1 : w1.cell? ⟨w.heap.size, 1, none⟩ = some (.slice aw nw cw) := F1.cell 1
  have c2 : w1.cell? ⟨w.heap.size, 2, none⟩ = some (.slice ab nb cb) := F1.cell 2
  have c3 : w1.cell? ⟨w.heap.size, 3, none⟩ = some (.slice sa ns sc) := F1.cell 3
  have hq0 : w.heap.size < w1.heap.size := by omega
  have hn0 : ¬ w.heap.size = w1.heap.size := by omega
  have hq9 : w.heap.size < w1.heap.size + 1 := by omega
  have hn9 : ¬ w.heap.size = w1.heap.size + 1 := by omega
  have HFH : Hid (∀ X, Below V2.heap.size V2 X → Four X w.heap.size (.slice ao 8 co) (.slice aw nw cw) (.slice ab nb cb) (.slice sa ns sc)) := fun X hX => ((F1.later BV).later BV2).later hX
  have HBV : Hid (Below w.heap.size w V2) := HBW.out.trans ((bb.trans (BV2.mono bb.size)).mono HBW.out.size)
  rw [show s0.v = .agg #[.slice s0.oa s0.os.length s0.oc, .slice s0.wa s0.wn s0.wc, .slice s0.ba s0.bn s0.bc, .slice s0.sa s0.sn s0.sc] from rfl]
  have HsV : Hid (V.heap.size = w1.heap.size + 1) := sV
  clear M1 b1 BV BV2 bb F1 FH BW CC sW sV
  go_wp2_with fail
  rw [← hV, ← hV2]
  clear hV hV2 c0 c1 c2 c3 hq0 hn0 hq9 hn9
  refine (CN.out _ HBV.out).mono ?_
  rintro e w3 ⟨q0, rfl, M3, b3⟩
  have hs3 := b3.size
  obtain ⟨V3, hV3⟩ : ∃ V3, V3 = w3.alloc (.cells #[.slice q0.a q0.n q0.c, .slice q0.b q0.m q0.d] 77) := ⟨_, rfl⟩
  have BV3 : Below w3.heap.size w3 V3 := by rw [hV3]; exact (Below.refl _ _).alloc (Nat.le_refl _) _
  have HSG0 : Hid (SG V2 V3 w3.heap.size q0 (suspG H 0)) := by
    refine ⟨b3.trans (BV3.mono b3.size), by rw [hV3]; exact Two.new w3 _ _, hs3, ?_⟩
    rw [HG0.out]
    exact M3.later BV3
  rw [tsh_v]
  clear M3 b3 BV3 CN
  go_wp2
  rw [← hV3]
  obtain ⟨gt, hgt⟩ : ∃ gt, w3.heap.size = gt := ⟨_, rfl⟩
  rw [hgt] at HSG0 ⊢
  obtain ⟨gx, hgx⟩ : ∃ gx, w1.heap.size = gx := ⟨_, rfl⟩
  rw [hgx] at HLS0 ⊢
  clear hV3 hgt hs3 hgx hs1 sV2
  go_loopw [7] (fun i wr => ∃ (j : Nat) (q : TSh), i = .int .i64 (j : Int) ∧ j ≤ nb ∧ Hid (SG V2 wr gt q (suspG H j))) (fun i _ => nb - (intOf i).toNat)
  case atStart => exact ⟨0, _, rfl, by omega, HSG0⟩
  case round =>
    obtain ⟨j, q, rfl, hjn, HI⟩ := hrel
    have FHX := HFH.out wr HI.out.bel
    have c2 : wr.cell? ⟨w.heap.size, 2, none⟩ = some (.slice ab nb cb) := FHX.cell 2
    by_cases hlt : j < nb
    · have hj2 : j < H.buffer.length := by have := HLB.out; omega
      obtain ⟨bg, bo, rfl, hbg, hbc⟩ := HRB.out wr (HBV.out.trans (HI.out.bel.mono HBV.out.size)) j hj2
      have hz64 := HBF.out _ (List.getElem_mem hj2)
      have HST : Hid (suspG H (j + 1) = grayF H (suspG H j) H.buffer[j]) := suspG_step H j hj2
      have HE8 : Hid (Eight (suspG H j)) := suspG_eight H HL8.out j
      generalize H.buffer[j] = id at *
      have HXW : Hid (∀ X, Below wr.heap.size wr X → Below w.heap.size w X) := fun X hX => HBV.out.trans ((HI.out.bel.trans (hX.mono HI.out.bel.size)).mono HBV.out.size)
      have CS : Hid (∀ X, Below wr.heap.size wr X → _) := fun X hX => sSlotOf_calls _ H id X (HRH.out X (HXW.out X hX)) (by rw [HL8.out]; omega) hz64.1 hz64.2
      have CM : Hid (∀ X, Below wr.heap.size wr X → Calls Try.prog 61 #[.agg #[.slice ao 8 co, .slice aw nw cw, .slice (some ⟨bg, bo, none⟩) nb cb, .slice sa ns sc], q.v, .int .i64 (slotZ H id)] X fun e w' => ∃ s : TSh, e = .returned s.v ∧ TM w' X.heap.size s (suspG H (j + 1)) ∧ Below X.heap.size X w') := fun X hX => by
        rw [HST.out]
        exact sGrayF H (suspG H j) id X _ _ (HRH.out X (HXW.out X hX)) ((HI.out.tm.later hX).rd) HSM.out HE8.out HL8.out HF.out
      generalize slotZ H id = sl at *
      have hjl : (j : Int) < (nb : Int) := by omega
      clear hz64 HST
      go_wp2
      refine wp_region_last 10 (by kernel_rfl) (by kernel_rfl) (RZ V2.heap.size (.agg #[.slice ao 8 co, .slice aw nw cw, .slice (some ⟨bg, bo, none⟩) nb cb, .slice sa ns sc]) q.v (.pointer (some ⟨w.heap.size, 2, none⟩)) (.slice (some ⟨bg, bo, none⟩) nb cb) (.int .i64 (j : Int)) (.pointer (some ⟨bg, bo + j, none⟩)) (.int .i64 id) (.int .i64 sl) (suspG H (j + 1))) rs2_mono ?_ ?_
      · intro i o hi ho a X hX hA hdep
        have FX := FHX.later hX
        have TX := HI.out.t.later hX HI.out.t.lt
        match i, hi, ho with
        | 0, _, ho =>
          obtain rfl := Option.some.inj ho
          exact opLoadHp (alike_at hA (t := 1) (by kernel_rfl)) FX ⟨_, rfl, Below.refl _ _, rfl⟩
        | 1, _, ho =>
          obtain rfl := Option.some.inj ho
          exact opLoadTw (alike_at hA (t := 6) (by kernel_rfl)) TX ⟨_, rfl, Below.refl _ _, rfl⟩
        | 2, _, ho =>
          obtain rfl := Option.some.inj ho
          exact opLoadHp (alike_at hA (t := 1) (by kernel_rfl)) FX ⟨_, rfl, Below.refl _ _, rfl⟩
        | 3, _, ho =>
          obtain rfl := Option.some.inj ho
          exact opField 2 (by omega) (alike_at hA (t := 1) (by kernel_rfl)) ⟨_, rfl, Below.refl _ _, rfl⟩
        | 4, _, ho =>
          obtain rfl := Option.some.inj ho
          have e1 : a.eval (.tmp 33) = .pointer (some ⟨w.heap.size, 2, none⟩) := hdep ⟨3, .data⟩ (by simp) rfl 33 rfl
          exact opLoadI e1 (FX.cell 2) ⟨_, rfl, Below.refl _ _, rfl⟩
        | 5, _, ho =>
          obtain rfl := Option.some.inj ho
          exact opMove (alike_at hA (t := 7) (by kernel_rfl)) ⟨_, rfl, Below.refl _ _, rfl⟩
        | 6, _, ho =>
          obtain rfl := Option.some.inj ho
          have e1 : a.eval (.tmp 34) = .slice (some ⟨bg, bo, none⟩) nb cb := hdep ⟨4, .data⟩ (by simp) rfl 34 rfl
          have e2 : a.eval (.tmp 35) = .int .i64 (j : Int) := hdep ⟨5, .data⟩ (by simp) rfl 35 rfl
          exact opIndexIo e1 e2 hlt ⟨_, rfl, Below.refl _ _, rfl⟩
        | 7, _, ho =>
          obtain rfl := Option.some.inj ho
          have e1 : a.eval (.tmp 36) = .pointer (some ⟨bg, bo + j, none⟩) := hdep ⟨6, .data⟩ (by simp) rfl 36 rfl
          exact opLoadInt e1 ((hX.cell (p := ⟨bg, bo + j, none⟩) hbg).trans hbc) ⟨_, rfl, Below.refl _ _, rfl⟩
        | 8, _, ho =>
          obtain rfl := Option.some.inj ho
          have e1 : a.eval (.tmp 32) = .agg #[.slice ao 8 co, .slice aw nw cw, .slice (some ⟨bg, bo, none⟩) nb cb, .slice sa ns sc] := hdep ⟨2, .data⟩ (by simp) rfl 32 rfl
          have e2 : a.eval (.tmp 37) = .int .i64 id := hdep ⟨7, .data⟩ (by simp) rfl 37 rfl
          refine opCallSs e1 e2 (CS.out X hX) ?_
          rintro e w' ⟨rfl, hb⟩
          exact ⟨_, rfl, _, rfl, hb, rfl⟩
        | 9, _, ho =>
          obtain rfl := Option.some.inj ho
          have e1 : a.eval (.tmp 30) = .agg #[.slice ao 8 co, .slice aw nw cw, .slice (some ⟨bg, bo, none⟩) nb cb, .slice sa ns sc] := hdep ⟨0, .data⟩ (by simp) rfl 30 rfl
          have e2 : a.eval (.tmp 31) = q.v := hdep ⟨1, .data⟩ (by simp) rfl 31 rfl
          have e3 : a.eval (.tmp 38) = .int .i64 sl := hdep ⟨8, .data⟩ (by simp) rfl 38 rfl
          refine opSpecMarkGray e1 e2 e3 (CM.out X hX) ?_
          rintro e w' ⟨x, rfl, hx, hb⟩
          exact ⟨_, rfl, _, rfl, hb, x, rfl, hx.mono (Nat.le_trans HI.out.bel.size hX.size)⟩
      · intro o ho a X hX hA hdep
        obtain rfl := Option.some.inj ho
        obtain ⟨q2, e5, hT5⟩ := hdep ⟨9, .data⟩ (by simp) rfl 39 rfl
        have e3 : a.eval (.tmp 6) = .pointer (some ⟨gt, 0, none⟩) := alike_at hA (t := 6) (by kernel_rfl)
        have hTw := HI.out.t.later hX HI.out.t.lt
        rw [tsh_v] at e5
        refine opStoreT e3 e5 hTw ?_
        have HI2 : Hid (SG V2 (setTwo X gt (.slice q2.a q2.n q2.c) (.slice q2.b q2.m q2.d)) gt q2 (suspG H (j + 1))) := sg_set HI.out hX hT5
        obtain ⟨us, hus, rfl⟩ := alike_tmps hA [30, 31, 32, 33, 34, 35, 36, 37, 38, 39] (by kernel_rfl)
        clear hdep hA hus e3 e5 hTw ho hT5 CS CM FHX c2
        generalize setTwo X gt (.slice q2.a q2.n q2.c) (.slice q2.b q2.m q2.d) = Y at *
        simp only [List.mapIdx_cons, List.mapIdx_nil, Nat.reduceAdd, List.contains_cons, List.contains_nil, Nat.reduceBEq, Bool.or_false, Bool.or_true, if_true, if_false, Bool.false_eq_true]
        go_wp2
        go_roundw
        case rel => exact ⟨j + 1, q2, by go_num, by omega, HI2⟩
        case measure => simp [intOf]; omega
    · have hjn2 : nb ≤ j := by omega
      have HJN : Hid (j = nb) := by show _ = _; omega
      have HSG1 : Hid (SG V2 wr gt q (suspS H 0)) := by
        have h2 : suspG H j = suspS H 0 := by rw [HS0.out, HJN.out]
        rw [← h2]; exact HI.out
      clear FHX
      go_wp2
      clear c2 HI HJN hlt hjn hjn2
      go_loopw [8] (fun i wr => ∃ (j : Nat) (q : TSh), i = .int .i64 (j : Int) ∧ j ≤ nb ∧ Hid (SG V2 wr gt q (suspS H j))) (fun i _ => nb - (intOf i).toNat)
      case atStart => exact ⟨0, _, rfl, by omega, HSG1⟩
      case round =>
        obtain ⟨j, q, rfl, hjn, HI⟩ := hrel
        have FHX := HFH.out wr HI.out.bel
        have c2 : wr.cell? ⟨w.heap.size, 2, none⟩ = some (.slice ab nb cb) := FHX.cell 2
        by_cases hlt : j < nb
        · have hj2 : j < H.buffer.length := by have := HLB.out; omega
          obtain ⟨bg, bo, rfl, hbg, hbc⟩ := HRB.out wr (HBV.out.trans (HI.out.bel.mono HBV.out.size)) j hj2
          have hz64 := HBF.out _ (List.getElem_mem hj2)
          have HST : Hid (suspS H (j + 1) = scanF H (suspS H j) H.buffer[j]) := suspS_step H j hj2
          have HE8 : Hid (Eight (suspS H j)) := suspS_eight H HSM.out HL8.out j
          generalize H.buffer[j] = id at *
          have HXW : Hid (∀ X, Below wr.heap.size wr X → Below w.heap.size w X) := fun X hX => HBV.out.trans ((HI.out.bel.trans (hX.mono HI.out.bel.size)).mono HBV.out.size)
          have CS : Hid (∀ X, Below wr.heap.size wr X → _) := fun X hX => sSlotOf_calls _ H id X (HRH.out X (HXW.out X hX)) (by rw [HL8.out]; omega) hz64.1 hz64.2
          have CM : Hid (∀ X, Below wr.heap.size wr X → Calls Try.prog 62 #[.agg #[.slice ao 8 co, .slice aw nw cw, .slice (some ⟨bg, bo, none⟩) nb cb, .slice sa ns sc], q.v, .int .i64 (slotZ H id)] X fun e w' => ∃ s : TSh, e = .returned s.v ∧ TM w' X.heap.size s (suspS H (j + 1)) ∧ Below X.heap.size X w') := fun X hX => by
            rw [HST.out]
            exact sScanF H (suspS H j) id X _ _ (HRH.out X (HXW.out X hX)) ((HI.out.tm.later hX).rd) HSM.out HE8.out HL8.out HF.out
          generalize slotZ H id = sl at *
          have hjl : (j : Int) < (nb : Int) := by omega
          clear hz64 HST
          go_wp2
          refine wp_region_last 10 (by kernel_rfl) (by kernel_rfl) (RZ V2.heap.size (.agg #[.slice ao 8 co, .slice aw nw cw, .slice (some ⟨bg, bo, none⟩) nb cb, .slice sa ns sc]) q.v (.pointer (some ⟨w.heap.size, 2, none⟩)) (.slice (some ⟨bg, bo, none⟩) nb cb) (.int .i64 (j : Int)) (.pointer (some ⟨bg, bo + j, none⟩)) (.int .i64 id) (.int .i64 sl) (suspS H (j + 1))) rs2_mono ?_ ?_
          · intro i o hi ho a X hX hA hdep
            have FX := FHX.later hX
            have TX := HI.out.t.later hX HI.out.t.lt
            match i, hi, ho with
            | 0, _, ho =>
              obtain rfl := Option.some.inj ho
              exact opLoadHp (alike_at hA (t := 1) (by kernel_rfl)) FX ⟨_, rfl, Below.refl _ _, rfl⟩
            | 1, _, ho =>
              obtain rfl := Option.some.inj ho
              exact opLoadTw (alike_at hA (t := 6) (by kernel_rfl)) TX ⟨_, rfl, Below.refl _ _, rfl⟩
            | 2, _, ho =>
              obtain rfl := Option.some.inj ho
              exact opLoadHp (alike_at hA (t := 1) (by kernel_rfl)) FX ⟨_, rfl, Below.refl _ _, rfl⟩
            | 3, _, ho =>
              obtain rfl := Option.some.inj ho
              exact opField 2 (by omega) (alike_at hA (t := 1) (by kernel_rfl)) ⟨_, rfl, Below.refl _ _, rfl⟩
            | 4, _, ho =>
              obtain rfl := Option.some.inj ho
              have e1 : a.eval (.tmp 50) = .pointer (some ⟨w.heap.size, 2, none⟩) := hdep ⟨3, .data⟩ (by simp) rfl 50 rfl
              exact opLoadI e1 (FX.cell 2) ⟨_, rfl, Below.refl _ _, rfl⟩
            | 5, _, ho =>
              obtain rfl := Option.some.inj ho
              exact opMove (alike_at hA (t := 8) (by kernel_rfl)) ⟨_, rfl, Below.refl _ _, rfl⟩
            | 6, _, ho =>
              obtain rfl := Option.some.inj ho
              have e1 : a.eval (.tmp 51) = .slice (some ⟨bg, bo, none⟩) nb cb := hdep ⟨4, .data⟩ (by simp) rfl 51 rfl
              have e2 : a.eval (.tmp 52) = .int .i64 (j : Int) := hdep ⟨5, .data⟩ (by simp) rfl 52 rfl
              exact opIndexIo e1 e2 hlt ⟨_, rfl, Below.refl _ _, rfl⟩
            | 7, _, ho =>
              obtain rfl := Option.some.inj ho
              have e1 : a.eval (.tmp 53) = .pointer (some ⟨bg, bo + j, none⟩) := hdep ⟨6, .data⟩ (by simp) rfl 53 rfl
              exact opLoadInt e1 ((hX.cell (p := ⟨bg, bo + j, none⟩) hbg).trans hbc) ⟨_, rfl, Below.refl _ _, rfl⟩
            | 8, _, ho =>
              obtain rfl := Option.some.inj ho
              have e1 : a.eval (.tmp 49) = .agg #[.slice ao 8 co, .slice aw nw cw, .slice (some ⟨bg, bo, none⟩) nb cb, .slice sa ns sc] := hdep ⟨2, .data⟩ (by simp) rfl 49 rfl
              have e2 : a.eval (.tmp 54) = .int .i64 id := hdep ⟨7, .data⟩ (by simp) rfl 54 rfl
              refine opCallSs e1 e2 (CS.out X hX) ?_
              rintro e w' ⟨rfl, hb⟩
              exact ⟨_, rfl, _, rfl, hb, rfl⟩
            | 9, _, ho =>
              obtain rfl := Option.some.inj ho
              have e1 : a.eval (.tmp 47) = .agg #[.slice ao 8 co, .slice aw nw cw, .slice (some ⟨bg, bo, none⟩) nb cb, .slice sa ns sc] := hdep ⟨0, .data⟩ (by simp) rfl 47 rfl
              have e2 : a.eval (.tmp 48) = q.v := hdep ⟨1, .data⟩ (by simp) rfl 48 rfl
              have e3 : a.eval (.tmp 55) = .int .i64 sl := hdep ⟨8, .data⟩ (by simp) rfl 55 rfl
              refine opSpecScanFrom e1 e2 e3 (CM.out X hX) ?_
              rintro e w' ⟨x, rfl, hx, hb⟩
              exact ⟨_, rfl, _, rfl, hb, x, rfl, hx.mono (Nat.le_trans HI.out.bel.size hX.size)⟩
          · intro o ho a X hX hA hdep
            obtain rfl := Option.some.inj ho
            obtain ⟨q2, e5, hT5⟩ := hdep ⟨9, .data⟩ (by simp) rfl 56 rfl
            have e3 : a.eval (.tmp 6) = .pointer (some ⟨gt, 0, none⟩) := alike_at hA (t := 6) (by kernel_rfl)
            have hTw := HI.out.t.later hX HI.out.t.lt
            rw [tsh_v] at e5
            refine opStoreT e3 e5 hTw ?_
            have HI2 : Hid (SG V2 (setTwo X gt (.slice q2.a q2.n q2.c) (.slice q2.b q2.m q2.d)) gt q2 (suspS H (j + 1))) := sg_set HI.out hX hT5
            obtain ⟨us, hus, rfl⟩ := alike_tmps hA [47, 48, 49, 50, 51, 52, 53, 54, 55, 56] (by kernel_rfl)
            clear hdep hA hus e3 e5 hTw ho hT5 CS CM FHX c2
            generalize setTwo X gt (.slice q2.a q2.n q2.c) (.slice q2.b q2.m q2.d) = Y at *
            simp only [List.mapIdx_cons, List.mapIdx_nil, Nat.reduceAdd, List.contains_cons, List.contains_nil, Nat.reduceBEq, Bool.or_false, Bool.or_true, if_true, if_false, Bool.false_eq_true]
            go_wp2
            go_roundw
            case rel => exact ⟨j + 1, q2, by go_num, by omega, HI2⟩
            case measure => simp [intOf]; omega
        · have hjn2 : nb ≤ j := by omega
          have HJN : Hid (j = nb) := by show _ = _; omega
          have HSG2 : Hid (SG V2 wr gt q (suspT H)) := by
            have h2 : suspS H j = suspT H := by rw [HSE.out, HJN.out]
            rw [← h2]; exact HI.out
          have hT8 : Eight (suspT H) := by rw [HSE.out]; exact suspS_eight H HSM.out HL8.out nb
          have tt := HSG2.out.t
          have t0 : wr.cell? ⟨gt, 0, none⟩ = some (.slice q.a q.n q.c) := tt.cell 0
          have t1 : wr.cell? ⟨gt, 1, none⟩ = some (.slice q.b q.m q.d) := tt.cell 1
          have CW : Hid (∀ _ : Unit, _) := fun (_ : Unit) => sWhites_calls q.v (suspT H) wr HSG2.out.tm.rd ⟨by rw [hT8.1]; omega, by rw [hT8.2]; omega⟩
          rw [tsh_v] at CW
          obtain ⟨isB, tl, p0, p1, p2, p3, p4⟩ := coll_parts H hT8
          have HP1 : Hid (∀ j : Nat, j < 8 → tl j = if isB j = true then (j : Int) :: tl (j + 1) else tl (j + 1)) := p1
          have HP2 : Hid (tl 8 = []) := p2
          have HP4 : Hid (∀ j, isB j = isW (suspT H) j) := p4
          have HCF : Hid (collF H = (whites (suspT H)).map (fun i => idZ i (genAt H i))) := rfl
          have hwl : (whites (suspT H)).length ≤ 8 := by
            have : ∀ (zs : List Int) (i : Int), (whiteL zs i).length ≤ zs.length := by
              intro zs
              induction zs with
              | nil => intro i; simp [whiteL]
              | cons o r ih =>
                intro i
                unfold whiteL
                have := ih (i + 1)
                split <;> simp <;> omega
            have h1 := this (suspT H).colors 0
            have h2 : (suspT H).colors.length = 8 := hT8.2
            unfold whites
            omega
          have HLS2 : Hid (LS W wr W.heap.size gx s0 H (.slice none 0 0) (.slice (some ⟨gx + 1, 0, none⟩) 0 0) [] []) := ls_later HLS0.out HSG2.out.bel
          generalize whites (suspT H) = ws at *
          have HP0 : Hid (ws = [] ++ tl 0) := by show _ = _; rw [p0]; rfl
          have HP3 : Hid (∀ j : Nat, j < 8 → decide ((j : Int) ∈ ws) = isB j) := p3
          obtain ⟨L, hL⟩ : ∃ L, ws.length = L := ⟨_, rfl⟩
          have HL : Hid (ws.length = L) := hL
          rw [hL] at hwl
          clear FHX HI HJN hjn hT8 tt p0 p1 p2 p3 p4 hL HLS0 HSG1 HSG0 HG0 HS0 HSE
          go_wp2_with fail
          refine (CW.out ()).mono ?_
          rintro e w5 ⟨vk, rfl, O5, b5⟩
          obtain ⟨ka, kc, hvk, -⟩ := rdI_own' O5
          rw [HL.out] at hvk
          subst hvk
          have HLS3 : Hid (LS W w5 W.heap.size gx s0 (cup H 0) (.slice ka L kc) (.slice (some ⟨gx + 1, 0, none⟩) 0 0) ws []) := by
            have l := ls_later HLS2.out b5
            rw [cup_zero]
            exact ⟨l.bel, l.hB, l.m, l.x, l.gB, l.sx, ownQ_own (ownI_mono O5 HLS2.out.le), l.f, fun g hg hh => (by have h1 := (hm_bl HLS2.out.m hh).2; have h2 := (ownI_lt O5 g hg).1; omega), l.sf, fun g hg h2 => (by have h3 := (ownI_lt O5 g hg).1; have h4 := (ownI_lt HLS2.out.f g h2).2; omega)⟩
          obtain ⟨go, hgo, -, -⟩ := hm_own HLS3.out.m 0 (by rw [cup_len, HL8.out]; omega)
          have HGO0 : Hid (s0.oa = some ⟨go, 0, none⟩) := hgo
          have HZ0 : Hid (([] : List Int).length = 0) := rfl
          clear hgo HLS2 O5 b5 CW t0 t1 HSG2 c2 hlt hjn2
          go_wp2
          go_loopw [5, 10] (fun vf i wr => ∃ (j : Nat) (P : List Int) (n : Nat) (s : HSh) (fa : Option Addr) (fc : Nat), i = .int .i64 (j : Int) ∧ j ≤ 8 ∧ n ≤ j ∧ vf = .slice fa n fc ∧ Hid (P.length = n) ∧ Hid (s.oa = some ⟨go, 0, none⟩) ∧ Hid (ws = P ++ tl j) ∧ Hid (LS W wr W.heap.size gx s (cup H j) (.slice ka L kc) vf ws (P.map (fun i => idZ i (genAt H i))))) (fun _ i _ => 8 - (intOf i).toNat)
          case atStart => exact ⟨0, [], 0, s0, _, _, rfl, by omega, by omega, rfl, HZ0, HGO0, HP0, HLS3⟩
          case round =>
            clear HLS3 HGO0 HP0 HZ0
            obtain ⟨j, P, n, s, fa, fc, rfl, hj8, hnj, rfl, HPL, HGO, HTJ, HI⟩ := hrel
            have hsl : s.os.length = 8 := by rw [HI.out.m.lo, cup_len, HL8.out]
            have x0 : wr.cell? ⟨gx, 0, none⟩ = some (.slice (some ⟨go, 0, none⟩) 8 s.oc) := by
              have e : wr.cell? ⟨gx, 0, none⟩ = some (.slice s.oa s.os.length s.oc) := HI.out.x.cell 0
              rw [HGO.out, hsl] at e
              exact e
            by_cases hlt : j < 8
            · have hjH : j < H.objs.length := by have := HL8.out; omega
              have hjC : j < (cup H j).objs.length := by rw [cup_len]; exact hjH
              have hca := cup_at H j hjH
              obtain ⟨hj2, ho, hfz⟩ := hm_obj HI.out.m j hjC go HGO.out
              have c7 := ho.c7
              have z7 := hfz 7 (by omega)
              have HL2 : Hid (LS W (wr.setCell ⟨go, j * 8 + 7, none⟩ (.bool false)) W.heap.size gx s { cup H j with objs := (cup H j).objs.set j { (cup H j).objs[j] with purple := false } } (.slice ka L kc) (.slice fa n fc) ws (P.map (fun i => idZ i (genAt H i)))) := ls_obj HI.out go _ _ HGO.out (hm_purple HI.out.m j hjC go HGO.out false)
              rw [hca] at HL2 c7
              obtain ⟨Hc, hHc⟩ : ∃ Hc : HeapD, Hc = { cup H j with objs := (cup H j).objs.set j { H.objs[j] with purple := false } } := ⟨_, rfl⟩
              rw [← hHc] at HL2
              have hcl : Hc.objs.length = 8 := by rw [hHc, ← HL8.out, ← cup_len H j]; simp
              have HNO : Hid (isB j = false → Hc = cup H (j + 1)) := fun hb => by rw [hHc]; exact cup_no H j hjH (by rw [← HP4.out]; exact hb)
              have HYES : Hid (isB j = true → setO Hc j (emptyD H.objs[j].gen) = cup H (j + 1)) := fun hb => by rw [hHc]; exact cup_yes H j hjH (by rw [← HP4.out]; exact hb) _
              obtain ⟨hg, hoff, f9, fc9, rfl, hgl, hoo, -⟩ := HRO.out j hjH
              have HGX : Hid (∀ X, Below W.heap.size W X → X.cell? ⟨hg, hoff + j * 8 + 1, none⟩ = some (.int .i64 H.objs[j].gen)) := fun X hX => ((HBW.out.trans (hX.mono HBW.out.size)).cell (p := ⟨hg, hoff + j * 8 + 1, none⟩) hgl).trans hoo.c1
              have HGA : Hid (genAt H (j : Int) = H.objs[j].gen) := genAt_of H j hjH
              obtain ⟨V5, hV5⟩ : ∃ V, V = wr.setCell ⟨go, j * 8 + 7, none⟩ (.bool false) := ⟨_, rfl⟩
              rw [← hV5] at HL2
              obtain ⟨qa, qc, hqa, hrq⟩ := ownQ_form HL2.out.q
              rw [HL.out] at hqa
              simp only [Value.slice.injEq] at hqa
              have hrk : RdI V5 ka ws := by rw [hqa.1]; exact hrq
              have CH : Hid (∀ _ : Unit, _) := fun (_ : Unit) => sHas_calls V5 ka kc ws (j : Int) hrk (by rw [HL.out]; omega)
              rw [HL.out, HP3.out j hlt] at CH
              have CID : Hid (∀ X, _) := fun X => sIdOf_calls (j : Int) H.objs[j].gen X
              generalize H.objs[j].gen = og at *
              have hji : (j : Int) < 8 := by omega
              clear HI hca ho hfz hHc hqa hrq hrk hoo hgl hsl
              go_wp2_with fail
              rw [← hV5]
              clear hV5 x0 c7 z7
              refine (CH.out ()).mono ?_
              rintro e w6 ⟨rfl, rfl⟩
              clear CH
              cases hb : isB j with
              | false =>
                have HN : Hid (LS W w6 W.heap.size gx s (cup H (j + 1)) (.slice ka L kc) (.slice fa n fc) ws (P.map (fun i => idZ i (genAt H i)))) := by
                  rw [← HNO.out hb]; exact HL2.out
                have HT : Hid (ws = P ++ tl (j + 1)) := by show _ = _; rw [HTJ.out, HP1.out j hlt, if_neg (by simp [hb])]
                clear HNO HYES HGX HGA CID HL2 hcl hb
                go_wp2
                go_roundw
                case rel => exact ⟨j + 1, P, n, s, fa, fc, by go_num, by omega, by omega, rfl, HPL, HGO, HT, HN⟩
                case measure => simp [intOf]; omega
              | true =>
                have HT : Hid (ws = (P ++ [(j : Int)]) ++ tl (j + 1)) := by show _ = _; rw [HTJ.out, HP1.out j hlt, if_pos hb]; simp
                have HYE : Hid (setO Hc j (emptyD og) = cup H (j + 1)) := HYES.out hb
                have HPM : Hid (∀ x, x = idZ (j : Int) og → (P ++ [(j : Int)]).map (fun i => idZ i (genAt H i)) = (P.map (fun i => idZ i (genAt H i))) ++ [x]) := fun x hx => by rw [List.map_append, hx, ← HGA.out]; rfl
                have d0 : w6.cell? ⟨w.heap.size, 0, none⟩ = some (.slice (some ⟨hg, hoff, none⟩) 8 co) := (HFW.out w6 HL2.out.bel).cell 0
                have d1 := HGX.out w6 HL2.out.bel
                obtain ⟨id, hid⟩ : ∃ id, id = idZ (j : Int) og := ⟨_, rfl⟩
                have HPI : Hid ((P ++ [(j : Int)]).map (fun i => idZ i (genAt H i)) = (P.map (fun i => idZ i (genAt H i))) ++ [id]) := HPM.out id hid
                rw [← hid] at CID
                have HFL : Hid ((P.map (fun i => idZ i (genAt H i))).length = n) := by show _ = _; rw [List.length_map]; exact HPL.out
                obtain ⟨V4, hV4⟩ : ∃ V4, V4 = w6.alloc (.cells #[.int .i64 id] 3) := ⟨_, rfl⟩
                have b4 : Below w6.heap.size w6 V4 := by rw [hV4]; exact (Below.refl _ _).alloc (Nat.le_refl _) _
                have HI4 : Hid (LS W V4 W.heap.size gx s Hc (.slice ka L kc) (.slice fa n fc) ws (P.map (fun i => idZ i (genAt H i)))) := ls_later HL2.out b4
                have hVc : V4.cell? ⟨w6.heap.size, 0, none⟩ = some (.int .i64 id) := by rw [hV4, World.cell?_alloc_mark]; rfl
                have HW4 : Hid (W.heap.size ≤ V4.heap.size) := HI4.out.le
                clear HNO HYES HGA HPM hid b4 HL2 hb
                go_wp2_with fail
                refine (CID.out _).mono ?_
                rintro e w3 ⟨rfl, hw3⟩
                subst hw3
                clear CID d0 d1
                go_wp2_with (at_builtin; rw [← hV4]; clear hV4; refine wpList_appendL rfl _ _ rfl W.heap.size _ _ rfl HI4.out.f ⟨w3.heap.size, 0, none⟩ id rfl hVc ?hlen HW4.out ?_)
                case hlen => rw [HFL.out]; omega
                intro v4 X4 O4 s4 H4 A4 B4
                obtain ⟨fa4, fc4, rfl, -⟩ := rdI_own' O4
                have hfl : ((P.map (fun i => idZ i (genAt H i))) ++ [id]).length = n + 1 := by rw [List.length_append, HFL.out]; rfl
                rw [hfl] at O4 A4 ⊢
                have HL4 : Hid (LS W X4 W.heap.size gx s Hc (.slice ka L kc) (.slice fa4 (n + 1) fc4) ws ((P.map (fun i => idZ i (genAt H i))) ++ [id])) := by
                  refine ls_fr HI4.out (B4.out _ _ HI4.out.bel (Nat.le_refl _)) s4 H4.out _ _ O4 ?_
                  rcases A4.out with e | e
                  · exact .inl e
                  · exact .inr ⟨_, e, Nat.le_refl _⟩
                rw [← HPI.out] at HL4
                have hjc : j < Hc.objs.length := by omega
                have XX := HL4.out.x
                have hsl : s.os.length = 8 := by rw [HL4.out.m.lo, hcl]
                rw [HGO.out, hsl] at XX
                have FX0 := HFW.out X4 HL4.out.bel
                have hg4 : ∀ X, Below X4.heap.size X4 X → X.cell? ⟨hg, hoff + j * 8 + 1, none⟩ = some (.int .i64 og) := fun X hX => HGX.out X (HL4.out.bel.trans (hX.mono HL4.out.le))
                have HG4 : Hid (∀ X, Below X4.heap.size X4 X → X.cell? ⟨hg, hoff + j * 8 + 1, none⟩ = some (.int .i64 og)) := hg4
                have HXX : Hid (∀ X, Below X4.heap.size X4 X → Four X gx (.slice (some ⟨go, 0, none⟩) 8 s.oc) (.slice s.wa s.wn s.wc) (.slice s.ba s.bn s.bc) (.slice s.sa s.sn s.sc)) := fun X hX => XX.later hX
                have HFX : Hid (∀ X, Below X4.heap.size X4 X → Four X w.heap.size (.slice (some ⟨hg, hoff, none⟩) 8 co) (.slice aw nw cw) (.slice ab nb cb) (.slice sa ns sc)) := fun X hX => FX0.later hX
                have HPL2 : Hid ((P ++ [(j : Int)]).length = n + 1) := by show _ = _; rw [List.length_append, HPL.out]; rfl
                clear O4 s4 H4 A4 B4 HI4 hVc HW4 HPI HFL hfl HGX hg4 XX FX0
                go_wp2
                refine wp_region_last 12 (by kernel_rfl) (by kernel_rfl) (RE X4.heap.size gx go s.oc w.heap.size hg hoff co j og) re_mono ?_ ?_
                · intro i o hi ho a X hX hA hdep
                  have XF := HXX.out X hX
                  have FX := HFX.out X hX
                  match i, hi, ho with
                  | 0, _, ho =>
                    obtain rfl := Option.some.inj ho
                    exact opField 0 (by omega) (alike_at hA (t := 4) (by kernel_rfl)) ⟨_, rfl, Below.refl _ _, rfl⟩
                  | 1, _, ho =>
                    obtain rfl := Option.some.inj ho
                    have e1 : a.eval (.tmp 85) = .pointer (some ⟨gx, 0, none⟩) := hdep ⟨0, .data⟩ (by simp) rfl 85 rfl
                    exact opLoadO e1 (XF.cell 0) ⟨_, rfl, Below.refl _ _, rfl⟩
                  | 2, _, ho =>
                    obtain rfl := Option.some.inj ho
                    exact opMove (alike_at hA (t := 10) (by kernel_rfl)) ⟨_, rfl, Below.refl _ _, rfl⟩
                  | 3, _, ho =>
                    obtain rfl := Option.some.inj ho
                    exact opField 0 (by omega) (alike_at hA (t := 1) (by kernel_rfl)) ⟨_, rfl, Below.refl _ _, rfl⟩
                  | 4, _, ho =>
                    obtain rfl := Option.some.inj ho
                    have e1 : a.eval (.tmp 88) = .pointer (some ⟨w.heap.size, 0, none⟩) := hdep ⟨3, .data⟩ (by simp) rfl 88 rfl
                    exact opLoadO e1 (FX.cell 0) ⟨_, rfl, Below.refl _ _, rfl⟩
                  | 5, _, ho =>
                    obtain rfl := Option.some.inj ho
                    exact opMove (alike_at hA (t := 10) (by kernel_rfl)) ⟨_, rfl, Below.refl _ _, rfl⟩
                  | 6, _, ho =>
                    obtain rfl := Option.some.inj ho
                    have e1 : a.eval (.tmp 89) = .slice (some ⟨hg, hoff, none⟩) 8 co := hdep ⟨4, .data⟩ (by simp) rfl 89 rfl
                    have e2 : a.eval (.tmp 90) = .int .i64 (j : Int) := hdep ⟨5, .data⟩ (by simp) rfl 90 rfl
                    exact opIndexOo e1 e2 hlt ⟨_, rfl, Below.refl _ _, rfl⟩
                  | 7, _, ho =>
                    obtain rfl := Option.some.inj ho
                    have e1 : a.eval (.tmp 91) = .pointer (some ⟨hg, hoff + j * 8, none⟩) := hdep ⟨6, .data⟩ (by simp) rfl 91 rfl
                    exact opFieldOb 1 (by omega) e1 ⟨_, rfl, Below.refl _ _, rfl⟩
                  | 8, _, ho =>
                    obtain rfl := Option.some.inj ho
                    have e1 : a.eval (.tmp 92) = .pointer (some ⟨hg, hoff + j * 8 + 1, none⟩) := hdep ⟨7, .data⟩ (by simp) rfl 92 rfl
                    exact opLoadInt e1 (HG4.out X hX) ⟨_, rfl, Below.refl _ _, rfl⟩
                  | 9, _, ho =>
                    obtain rfl := Option.some.inj ho
                    refine opNoneC (sNone3_calls X) ?_
                    rintro e w' ⟨a7, c7, rfl, o7, b7⟩
                    exact ⟨_, rfl, _, rfl, b7, a7, c7, rfl, ownI_mono o7 hX.size⟩
                  | 10, _, ho =>
                    obtain rfl := Option.some.inj ho
                    have e1 : a.eval (.tmp 93) = .int .i64 og := hdep ⟨8, .data⟩ (by simp) rfl 93 rfl
                    obtain ⟨a7, c7, e2, o7⟩ := hdep ⟨9, .data⟩ (by simp) rfl 94 rfl
                    exact opBuildE e1 e2 ⟨_, rfl, Below.refl _ _, a7, c7, rfl, o7⟩
                  | 11, _, ho =>
                    obtain rfl := Option.some.inj ho
                    have e1 : a.eval (.tmp 86) = .slice (some ⟨go, 0, none⟩) 8 s.oc := hdep ⟨1, .data⟩ (by simp) rfl 86 rfl
                    have e2 : a.eval (.tmp 87) = .int .i64 (j : Int) := hdep ⟨2, .data⟩ (by simp) rfl 87 rfl
                    exact opIndexO e1 e2 hlt ⟨_, rfl, Below.refl _ _, rfl⟩
                · intro o ho a X hX hA hdep
                  obtain rfl := Option.some.inj ho
                  obtain ⟨a7, c7, e2, o7⟩ := hdep ⟨10, .data⟩ (by simp) rfl 95 rfl
                  have e1 : a.eval (.tmp 96) = .pointer (some ⟨go, j * 8, none⟩) := hdep ⟨11, .data⟩ (by simp) rfl 96 rfl
                  obtain ⟨_, ob7, fz7⟩ := hm_obj (hm_later HL4.out.m hX) j hjc go HGO.out
                  refine opStoreOb e1 e2 ob7 fz7 ?_
                  have HLE : Hid (LS W (setObj X go (j * 8) (emptyD og) (.slice a7 3 c7)) W.heap.size gx { s with os := s.os.set j ⟨a7, 3, c7⟩ } (cup H (j + 1)) (.slice ka L kc) (.slice fa4 (n + 1) fc4) ws ((P ++ [(j : Int)]).map (fun i => idZ i (genAt H i)))) := by
                    rw [← HYE.out]
                    exact ls_put HL4.out hX j hjc go HGO.out (emptyD og) a7 c7 o7
                  have HGO2 : Hid (({ s with os := s.os.set j ⟨a7, 3, c7⟩ } : HSh).oa = some ⟨go, 0, none⟩) := HGO.out
                  obtain ⟨us, hus, rfl⟩ := alike_tmps hA [85, 86, 87, 88, 89, 90, 91, 92, 93, 94, 95, 96] (by kernel_rfl)
                  clear hdep hA hus e1 e2 ho ob7 fz7 o7 HL4 HYE HXX HFX HG4
                  generalize setObj X go (j * 8) (emptyD og) (.slice a7 3 c7) = Y at *
                  simp only [List.mapIdx_cons, List.mapIdx_nil, Nat.reduceAdd, List.contains_cons, List.contains_nil, Nat.reduceBEq, Bool.or_false, Bool.or_true, if_true, if_false, Bool.false_eq_true]
                  go_wp2
                  go_roundw
                  case rel => exact ⟨j + 1, P ++ [(j : Int)], n + 1, _, fa4, fc4, by go_num, by omega, by omega, rfl, HPL2, HGO2, HT, HLE⟩
                  case measure => simp [intOf]; omega
            · have HJ : Hid (j = 8) := by show _ = _; omega
              have HLK : Hid (LS W wr W.heap.size gx s (kup H 0) (.slice ka L kc) (.slice fa n fc) ws (collF H)) := by
                have e1 : cup H j = kup H 0 := cup_kup H j (by rw [HL8.out, HJ.out]; omega)
                have e2 : ws = P := by rw [HTJ.out, HJ.out, HP2.out, List.append_nil]
                have e3 : collF H = (P.map (fun i => idZ i (genAt H i))) := by rw [HCF.out, e2]
                rw [e3, ← e1]; exact HI.out
              have hj9 : ¬ (j : Int) < 8 := by omega
              clear HI HPL HTJ
              go_wp2
              clear x0 hj9 hlt hj8 hnj
              go_loopw [11] (fun i wr => ∃ j : Nat, i = .int .i64 (j : Int) ∧ j ≤ 8 ∧ Hid (LS W wr W.heap.size gx s (kup H j) (.slice ka L kc) (.slice fa n fc) ws (collF H))) (fun i _ => 8 - (intOf i).toNat)
              case atStart => exact ⟨0, rfl, by omega, HLK⟩
              case round =>
                clear HLK
                obtain ⟨k, rfl, hk8, HI⟩ := hrel
                have x0 : wr.cell? ⟨gx, 0, none⟩ = some (.slice (some ⟨go, 0, none⟩) 8 s.oc) := by
                  have e : wr.cell? ⟨gx, 0, none⟩ = some (.slice s.oa s.os.length s.oc) := HI.out.x.cell 0
                  rw [HGO.out, hsl] at e
                  exact e
                by_cases hlt : k < 8
                · have hkH : k < H.objs.length := by have := HL8.out; omega
                  have hkC : k < (kup H k).objs.length := by rw [kup_len]; exact hkH
                  have hk1 : k < (coll1 H).objs.length := by rw [coll1_len]; exact hkH
                  have hca := kup_at H k hkH
                  obtain ⟨hk2, ho, hfz⟩ := hm_obj HI.out.m k hkC go HGO.out
                  rw [hca] at ho
                  have c0 := ho.c0
                  have hki : (k : Int) < 8 := by omega
                  cases hlv : (coll1 H).objs[k].live with
                  | false =>
                    rw [hlv] at c0
                    have HN : Hid (LS W wr W.heap.size gx s (kup H (k + 1)) (.slice ka L kc) (.slice fa n fc) ws (collF H)) := by
                      rw [kup_no H k hk1 hlv]; exact HI.out
                    clear HI ho hfz hca
                    go_wp2
                    go_roundw
                    case rel => exact ⟨k + 1, by go_num, by omega, HN⟩
                    case measure => simp [intOf]; omega
                  | true =>
                    rw [hlv] at c0
                    have HKY : Hid (∀ M, M = madeZ (coll1 H) (k : Int) (coll1 H).objs[k] → ({ kup H k with objs := (kup H k).objs.set k { (kup H k).objs[k] with count := M } } : HeapD) = kup H (k + 1)) := fun M hM => by rw [hM, hca]; exact kup_yes H k hk1 hlv
                    have HMZ : Hid (madeZ (coll1 H) (k : Int) (coll1 H).objs[k] = IntKind.i64.wrap (IntKind.i64.wrap ((coll1 H).objs[k].holds + (coll1 H).objs[k].roots) + inEdges (coll1 H) (k : Int))) := rfl
                    have HC3 : Hid (∀ X, Below wr.heap.size wr X → X.cell? ⟨go, k * 8 + 3, none⟩ = some (.int .i64 (coll1 H).objs[k].holds) ∧ X.cell? ⟨go, k * 8 + 4, none⟩ = some (.int .i64 (coll1 H).objs[k].roots)) := fun X hX => by
                      obtain ⟨_, ho2, _⟩ := hm_obj (hm_later HI.out.m hX) k hkC go HGO.out
                      rw [hca] at ho2
                      exact ⟨ho2.c3, ho2.c4⟩
                    have CE : Hid (∀ X, Below wr.heap.size wr X → _) := fun X hX => sInEdges_calls s.v (kup H k) (k : Int) X (hm_rd (hm_later HI.out.m hX)) (kup_small HSM.out k) (by omega) (by omega)
                    rw [kup_edges] at CE
                    have hsv : s.v = .agg #[.slice (some ⟨go, 0, none⟩) 8 s.oc, .slice s.wa s.wn s.wc, .slice s.ba s.bn s.bc, .slice s.sa s.sn s.sc] := by
                      show Value.agg #[.slice s.oa s.os.length s.oc, .slice s.wa s.wn s.wc, .slice s.ba s.bn s.bc, .slice s.sa s.sn s.sc] = _
                      rw [HGO.out, hsl]
                    rw [hsv] at CE
                    have XX := HI.out.x
                    rw [HGO.out, hsl] at XX
                    have HXX : Hid (∀ X, Below wr.heap.size wr X → Four X gx (.slice (some ⟨go, 0, none⟩) 8 s.oc) (.slice s.wa s.wn s.wc) (.slice s.ba s.bn s.bc) (.slice s.sa s.sn s.sc)) := fun X hX => XX.later hX
                    generalize (coll1 H).objs[k].holds = hl at *
                    generalize (coll1 H).objs[k].roots = rt at *
                    generalize inEdges (coll1 H) (k : Int) = ie at *
                    obtain ⟨M, hM⟩ : ∃ M, M = madeZ (coll1 H) (k : Int) (coll1 H).objs[k] := ⟨_, rfl⟩
                    have HKM := HKY.out M hM
                    have HMM : Hid (IntKind.i64.wrap (IntKind.i64.wrap (hl + rt) + ie) = M) := by show _ = _; rw [hM]; exact HMZ.out.symm
                    have HKH : Hid (({ kup H k with objs := (kup H k).objs.set k { (kup H k).objs[k] with count := M } } : HeapD) = kup H (k + 1)) := HKM
                    clear HKM HKY HMZ hM XX hsv ho hfz hca
                    go_wp2
                    clear c0 x0
                    refine wp_region_last 22 (by kernel_rfl) (by kernel_rfl) (RM gx go s.oc k (.agg #[.slice (some ⟨go, 0, none⟩) 8 s.oc, .slice s.wa s.wn s.wc, .slice s.ba s.bn s.bc, .slice s.sa s.sn s.sc]) hl rt ie) rm_mono ?_ ?_
                    · intro i o hi ho a X hX hA hdep
                      have XF := HXX.out X hX
                      match i, hi, ho with
                      | 0, _, ho =>
                        obtain rfl := Option.some.inj ho
                        exact opField 0 (by omega) (alike_at hA (t := 4) (by kernel_rfl)) ⟨_, rfl, Below.refl _ _, rfl⟩
                      | 1, _, ho =>
                        obtain rfl := Option.some.inj ho
                        have e1 : a.eval (.tmp 110) = .pointer (some ⟨gx, 0, none⟩) := hdep ⟨0, .data⟩ (by simp) rfl 110 rfl
                        exact opLoadO e1 (XF.cell 0) ⟨_, rfl, Below.refl _ _, rfl⟩
                      | 2, _, ho =>
                        obtain rfl := Option.some.inj ho
                        exact opMove (alike_at hA (t := 11) (by kernel_rfl)) ⟨_, rfl, Below.refl _ _, rfl⟩
                      | 3, _, ho =>
                        obtain rfl := Option.some.inj ho
                        exact opField 0 (by omega) (alike_at hA (t := 4) (by kernel_rfl)) ⟨_, rfl, Below.refl _ _, rfl⟩
                      | 4, _, ho =>
                        obtain rfl := Option.some.inj ho
                        have e1 : a.eval (.tmp 113) = .pointer (some ⟨gx, 0, none⟩) := hdep ⟨3, .data⟩ (by simp) rfl 113 rfl
                        exact opLoadO e1 (XF.cell 0) ⟨_, rfl, Below.refl _ _, rfl⟩
                      | 5, _, ho =>
                        obtain rfl := Option.some.inj ho
                        exact opMove (alike_at hA (t := 11) (by kernel_rfl)) ⟨_, rfl, Below.refl _ _, rfl⟩
                      | 6, _, ho =>
                        obtain rfl := Option.some.inj ho
                        have e1 : a.eval (.tmp 114) = .slice (some ⟨go, 0, none⟩) 8 s.oc := hdep ⟨4, .data⟩ (by simp) rfl 114 rfl
                        have e2 : a.eval (.tmp 115) = .int .i64 (k : Int) := hdep ⟨5, .data⟩ (by simp) rfl 115 rfl
                        exact opIndexO e1 e2 hlt ⟨_, rfl, Below.refl _ _, rfl⟩
                      | 7, _, ho =>
                        obtain rfl := Option.some.inj ho
                        have e1 : a.eval (.tmp 116) = .pointer (some ⟨go, k * 8, none⟩) := hdep ⟨6, .data⟩ (by simp) rfl 116 rfl
                        exact opFieldOb 3 (by omega) e1 ⟨_, rfl, Below.refl _ _, rfl⟩
                      | 8, _, ho =>
                        obtain rfl := Option.some.inj ho
                        have e1 : a.eval (.tmp 117) = .pointer (some ⟨go, k * 8 + 3, none⟩) := hdep ⟨7, .data⟩ (by simp) rfl 117 rfl
                        exact opLoadInt e1 (HC3.out X hX).1 ⟨_, rfl, Below.refl _ _, rfl⟩
                      | 9, _, ho =>
                        obtain rfl := Option.some.inj ho
                        exact opField 0 (by omega) (alike_at hA (t := 4) (by kernel_rfl)) ⟨_, rfl, Below.refl _ _, rfl⟩
                      | 10, _, ho =>
                        obtain rfl := Option.some.inj ho
                        have e1 : a.eval (.tmp 119) = .pointer (some ⟨gx, 0, none⟩) := hdep ⟨9, .data⟩ (by simp) rfl 119 rfl
                        exact opLoadO e1 (XF.cell 0) ⟨_, rfl, Below.refl _ _, rfl⟩
                      | 11, _, ho =>
                        obtain rfl := Option.some.inj ho
                        exact opMove (alike_at hA (t := 11) (by kernel_rfl)) ⟨_, rfl, Below.refl _ _, rfl⟩
                      | 12, _, ho =>
                        obtain rfl := Option.some.inj ho
                        have e1 : a.eval (.tmp 120) = .slice (some ⟨go, 0, none⟩) 8 s.oc := hdep ⟨10, .data⟩ (by simp) rfl 120 rfl
                        have e2 : a.eval (.tmp 121) = .int .i64 (k : Int) := hdep ⟨11, .data⟩ (by simp) rfl 121 rfl
                        exact opIndexO e1 e2 hlt ⟨_, rfl, Below.refl _ _, rfl⟩
                      | 13, _, ho =>
                        obtain rfl := Option.some.inj ho
                        have e1 : a.eval (.tmp 122) = .pointer (some ⟨go, k * 8, none⟩) := hdep ⟨12, .data⟩ (by simp) rfl 122 rfl
                        exact opFieldOb 4 (by omega) e1 ⟨_, rfl, Below.refl _ _, rfl⟩
                      | 14, _, ho =>
                        obtain rfl := Option.some.inj ho
                        have e1 : a.eval (.tmp 123) = .pointer (some ⟨go, k * 8 + 4, none⟩) := hdep ⟨13, .data⟩ (by simp) rfl 123 rfl
                        exact opLoadInt e1 (HC3.out X hX).2 ⟨_, rfl, Below.refl _ _, rfl⟩
                      | 15, _, ho =>
                        obtain rfl := Option.some.inj ho
                        have e1 : a.eval (.tmp 118) = .int .i64 hl := hdep ⟨8, .data⟩ (by simp) rfl 118 rfl
                        have e2 : a.eval (.tmp 124) = .int .i64 rt := hdep ⟨14, .data⟩ (by simp) rfl 124 rfl
                        exact opAddI e1 e2 ⟨_, rfl, Below.refl _ _, rfl⟩
                      | 16, _, ho =>
                        obtain rfl := Option.some.inj ho
                        exact opLoadHp (alike_at hA (t := 4) (by kernel_rfl)) XF ⟨_, rfl, Below.refl _ _, rfl⟩
                      | 17, _, ho =>
                        obtain rfl := Option.some.inj ho
                        exact opMove (alike_at hA (t := 11) (by kernel_rfl)) ⟨_, rfl, Below.refl _ _, rfl⟩
                      | 18, _, ho =>
                        obtain rfl := Option.some.inj ho
                        have e1 : a.eval (.tmp 126) = .agg #[.slice (some ⟨go, 0, none⟩) 8 s.oc, .slice s.wa s.wn s.wc, .slice s.ba s.bn s.bc, .slice s.sa s.sn s.sc] := hdep ⟨16, .data⟩ (by simp) rfl 126 rfl
                        have e2 : a.eval (.tmp 127) = .int .i64 (k : Int) := hdep ⟨17, .data⟩ (by simp) rfl 127 rfl
                        refine opCallEd e1 e2 (CE.out X hX) ?_
                        rintro e w' ⟨rfl, hb⟩
                        exact ⟨_, rfl, _, rfl, hb, rfl⟩
                      | 19, _, ho =>
                        obtain rfl := Option.some.inj ho
                        have e1 : a.eval (.tmp 125) = .int .i64 (IntKind.i64.wrap (hl + rt)) := hdep ⟨15, .data⟩ (by simp) rfl 125 rfl
                        have e2 : a.eval (.tmp 128) = .int .i64 ie := hdep ⟨18, .data⟩ (by simp) rfl 128 rfl
                        exact opAddI e1 e2 ⟨_, rfl, Below.refl _ _, rfl⟩
                      | 20, _, ho =>
                        obtain rfl := Option.some.inj ho
                        have e1 : a.eval (.tmp 111) = .slice (some ⟨go, 0, none⟩) 8 s.oc := hdep ⟨1, .data⟩ (by simp) rfl 111 rfl
                        have e2 : a.eval (.tmp 112) = .int .i64 (k : Int) := hdep ⟨2, .data⟩ (by simp) rfl 112 rfl
                        exact opIndexO e1 e2 hlt ⟨_, rfl, Below.refl _ _, rfl⟩
                      | 21, _, ho =>
                        obtain rfl := Option.some.inj ho
                        have e1 : a.eval (.tmp 130) = .pointer (some ⟨go, k * 8, none⟩) := hdep ⟨20, .data⟩ (by simp) rfl 130 rfl
                        exact opFieldOb 5 (by omega) e1 ⟨_, rfl, Below.refl _ _, rfl⟩
                      | n + 22, hi, _ => exact absurd hi (by omega)
                    · intro o ho a X hX hA hdep
                      obtain rfl := Option.some.inj ho
                      have e1 : a.eval (.tmp 131) = .pointer (some ⟨go, k * 8 + 5, none⟩) := hdep ⟨21, .data⟩ (by simp) rfl 131 rfl
                      have e2 : a.eval (.tmp 129) = .int .i64 (IntKind.i64.wrap (IntKind.i64.wrap (hl + rt) + ie)) := hdep ⟨19, .data⟩ (by simp) rfl 129 rfl
                      rw [HMM.out] at e2
                      have HL3 := ls_later HI.out hX
                      obtain ⟨_, ob7, fz7⟩ := hm_obj HL3.m k hkC go HGO.out
                      refine opStoreInt e1 e2 ob7.c5 (fz7 5 (by omega)) ?_
                      have HLE : Hid (LS W (X.setCell ⟨go, k * 8 + 5, none⟩ (.int .i64 M)) W.heap.size gx s (kup H (k + 1)) (.slice ka L kc) (.slice fa n fc) ws (collF H)) := by
                        rw [← HKH.out]
                        exact ls_obj HL3 go _ _ HGO.out (hm_count HL3.m k hkC go HGO.out M)
                      obtain ⟨us, hus, rfl⟩ := alike_tmps hA [110, 111, 112, 113, 114, 115, 116, 117, 118, 119, 120, 121, 122, 123, 124, 125, 126, 127, 128, 129, 130, 131] (by kernel_rfl)
                      clear hdep hA hus e1 e2 ho ob7 fz7 HL3 HXX HC3 CE HI HKH HMM
                      generalize X.setCell ⟨go, k * 8 + 5, none⟩ (.int .i64 M) = Y at *
                      simp only [List.mapIdx_cons, List.mapIdx_nil, Nat.reduceAdd, List.contains_cons, List.contains_nil, Nat.reduceBEq, Bool.or_false, Bool.or_true, if_true, if_false, Bool.false_eq_true]
                      go_wp2
                      go_roundw
                      case rel => exact ⟨k + 1, by go_num, by omega, HLE⟩
                      case measure => simp [intOf]; omega
                · have HK8 : Hid (k = 8) := by show _ = _; omega
                  have hk9 : ¬ (k : Int) < 8 := by omega
                  obtain ⟨V9, hV9⟩ : ∃ V, V = wr.alloc (.cells #[] 3) := ⟨_, rfl⟩
                  have B9 : Below wr.heap.size wr V9 := by rw [hV9]; exact (Below.refl _ _).alloc (Nat.le_refl _) _
                  have XV := HI.out.x.later B9
                  obtain ⟨Y, hY⟩ : ∃ Y, Y = V9.setCell ⟨gx, 2, none⟩ (.slice (some ⟨wr.heap.size, 0, none⟩) 0 0) := ⟨_, rfl⟩
                  have HL9 : Hid (LS W Y W.heap.size gx { s with ba := some ⟨wr.heap.size, 0, none⟩, bn := 0, bc := 0 } (collH H) (.slice ka L kc) (.slice fa n fc) ws (collF H)) := by
                    rw [← kup_end H k (by rw [HL8.out, HK8.out]; omega), hY]
                    refine ls_buf HI.out (HI.out.bel.trans (B9.mono HI.out.le)) B9.size (fun i hi _ => B9.block i hi) (some ⟨wr.heap.size, 0, none⟩) 0 0 [] rfl ?_ (fun g hg => .inr ?_)
                    · rw [hV9]; exact ownI_new _ _ HI.out.le
                    · injection hg with hg; simp only at hg; omega
                  obtain ⟨s9, hs9⟩ : ∃ s9 : HSh, s9 = { s with ba := some ⟨wr.heap.size, 0, none⟩, bn := 0, bc := 0 } := ⟨_, rfl⟩
                  have e3 := HsW.out
                  have XF := HL9.out.x
                  have RF : Four Y (w.heap.size + 1) (.slice none 0 0) (.slice none 0 0) (.slice none 0 0) (.slice none 0 0) := (HL9.out.bel.block (w.heap.size + 1) (by omega)).trans HFR.out
                  have q0 : Y.cell? ⟨gx, 0, none⟩ = some (.slice s.oa s.os.length s.oc) := XF.cell 0
                  have q1 : Y.cell? ⟨gx, 1, none⟩ = some (.slice s.wa s.wn s.wc) := XF.cell 1
                  have q2 : Y.cell? ⟨gx, 2, none⟩ = some (.slice (some ⟨wr.heap.size, 0, none⟩) 0 0) := XF.cell 2
                  have q3 : Y.cell? ⟨gx, 3, none⟩ = some (.slice s.sa s.sn s.sc) := XF.cell 3
                  have r0 := RF.cell 0
                  have r1 := RF.cell 1
                  have r2 := RF.cell 2
                  have r3 := RF.cell 3
                  have z0 := RF.frozen 0
                  have z1 := RF.frozen 1
                  have z2 := RF.frozen 2
                  have z3 := RF.frozen 3
                  simp only [List.getElem?_toArray, List.getElem?_cons_zero, List.getElem?_cons_succ] at r0 r1 r2 r3
                  have v2 : V9.cell? ⟨gx, 2, none⟩ = some (.slice s.ba s.bn s.bc) := XV.cell 2
                  have u2 := XV.frozen 2
                  have HBl : Hid (Below w.heap.size w Y) := HBW.out.trans (HL9.out.bel.mono HBW.out.size)
                  rw [hY, hV9] at q0 q1 q2 q3 r0 r1 r2 r3 z0 z1 z2 z3
                  rw [hV9] at v2 u2
                  rw [hV9] at hY
                  clear XF RF XV B9 hV9 e3 HI
                  go_wp2
                  rw [← hY]
                  have e3 := HsW.out
                  refine bodyPost_ret (v := .tuple #[.agg #[.slice s.oa s.os.length s.oc, .slice s.wa s.wn s.wc, .slice (some ⟨wr.heap.size, 0, none⟩) 0 0, .slice s.sa s.sn s.sc], .slice fa n fc]) (by simp [results, Try.results19, go_sem, *]) rfl ⟨{ s with ba := some ⟨wr.heap.size, 0, none⟩, bn := 0, bc := 0 }, .slice fa n fc, rfl, ?_, ?_, HL9.out.sf, ?_⟩
                  · refine hm_mono (hm_keepB HL9.out.m ?_) (by omega)
                    refine (((keepB_set _ _ ⟨w.heap.size + 1, 0, none⟩ _ (by simp only; omega)).trans (keepB_set _ _ ⟨w.heap.size + 1, 1, none⟩ _ (by simp only; omega))).trans (keepB_set _ _ ⟨w.heap.size + 1, 2, none⟩ _ (by simp only; omega))).trans (keepB_set _ _ ⟨w.heap.size + 1, 3, none⟩ _ (by simp only; omega))
                  · exact ownI_mono (ownI_same (w' := setFour Y (w.heap.size + 1) _ _ _ _) HL9.out.f (fun g hg => setFour_other _ _ _ _ _ _ g (by have := (ownI_lt HL9.out.f g hg).1; omega))) (by omega)
                  · iterate 4 refine Below.setCell ?_ (by simp only; omega) _
                    exact HBl.out
set_option maxHeartbeats 8000000 in
theorem sCollect_no (v : Value) (H : HeapD) (w : World) (h : RdH w v H) (hs : SmallH H) (h8 : H.objs.length ≠ 8) :
    Calls Try.prog 19 #[v] w fun e w' => ∃ (s : HSh) (vf : Value), e = .returned (.tuple #[s.v, vf]) ∧ HM w' w.heap.size s H ∧ ownI w' w.heap.size vf [] ∧ (∀ g, vf.ownBlock = some g → ¬ HasB s g) ∧ Below w.heap.size w w' := by
  have CC : Hid (∀ X, Below w.heap.size w X → _) := fun X hX => sCopy_calls v H X (rdH_later h hX) hs
  have hol := hs.objs
  obtain ⟨ao, co, aw, cw, ab, cb, sa, sc, rfl, -, -, -, -⟩ := h
  obtain ⟨no, hno⟩ : ∃ no, H.objs.length = no := ⟨_, rfl⟩
  rw [hno] at CC h8 hol ⊢
  have hne : ¬ (no : Int) = 8 := by omega
  generalize H.weaks.length = nw at *
  generalize H.buffer.length = nb at *
  generalize H.sites.length = ns at *
  obtain ⟨W, hW⟩ : ∃ W, W = (w.alloc (.cells #[.slice ao no co, .slice aw nw cw, .slice ab nb cb, .slice sa ns sc] 29)).alloc (.cells #[.slice none 0 0, .slice none 0 0, .slice none 0 0, .slice none 0 0] 29) := ⟨_, rfl⟩
  have BW : Below w.heap.size w W := by rw [hW]; exact ((Below.refl _ _).alloc (Nat.le_refl _) _).alloc (by simp) _
  have sW : W.heap.size = w.heap.size + 2 := by rw [hW]; simp
  have FH : Four W w.heap.size (.slice ao no co) (.slice aw nw cw) (.slice ab nb cb) (.slice sa ns sc) := by
    have f := Four.new w (.slice ao no co) (.slice aw nw cw) (.slice ab nb cb) (.slice sa ns sc)
    have f2 := f.later ((Below.refl _ _).alloc (Nat.le_refl _) (.cells #[.slice none 0 0, .slice none 0 0, .slice none 0 0, .slice none 0 0] 29))
    rw [hW]; exact f2
  have FR : Four W (w.heap.size + 1) (.slice none 0 0) (.slice none 0 0) (.slice none 0 0) (.slice none 0 0) := by
    have f := Four.new (w.alloc (.cells #[.slice ao no co, .slice aw nw cw, .slice ab nb cb, .slice sa ns sc] 29)) (.slice none 0 0) (.slice none 0 0) (.slice none 0 0) (.slice none 0 0)
    rw [← hW] at f
    simpa using f
  have HBW : Hid (Below w.heap.size w W) := BW
  have HsW : Hid (W.heap.size = w.heap.size + 2) := sW
  clear hs hno h8
  go_enter Try.func19, Try.ntmps19
  go_wp2_with fail
  rw [← hW]
  clear hW
  refine (CC.out _ BW).mono ?_
  rintro e w1 ⟨s0, rfl, M1, b1⟩
  have hs1 := b1.size
  have F1 := FH.later b1
  have c0 : w1.cell? ⟨w.heap.size, 0, none⟩ = some (.slice ao no co) := F1.cell 0
  have RF := FR.later b1
  have r0 := RF.cell 0
  have r1 := RF.cell 1
  have r2 := RF.cell 2
  have r3 := RF.cell 3
  have z0 := RF.frozen 0
  have z1 := RF.frozen 1
  have z2 := RF.frozen 2
  have z3 := RF.frozen 3
  simp only [List.getElem?_toArray, List.getElem?_cons_zero, List.getElem?_cons_succ] at r0 r1 r2 r3
  have hq0 : w.heap.size < w1.heap.size := by omega
  have hn0 : ¬ w.heap.size = w1.heap.size := by omega
  have hq1 : w.heap.size + 1 < w1.heap.size := by omega
  have hn1 : ¬ w.heap.size + 1 = w1.heap.size := by omega
  have HM1 : Hid (HM w1 W.heap.size s0 H) := M1
  have HBl : Hid (Below w.heap.size w w1) := HBW.out.trans (b1.mono HBW.out.size)
  rw [show s0.v = .agg #[.slice s0.oa s0.os.length s0.oc, .slice s0.wa s0.wn s0.wc, .slice s0.ba s0.bn s0.bc, .slice s0.sa s0.sn s0.sc] from rfl]
  obtain ⟨V, hV⟩ : ∃ V, V = w1.alloc (.cells #[.slice s0.oa s0.os.length s0.oc, .slice s0.wa s0.wn s0.wc, .slice s0.ba s0.bn s0.bc, .slice s0.sa s0.sn s0.sc] 29) := ⟨_, rfl⟩
  have BV : Below w1.heap.size w1 V := by rw [hV]; exact (Below.refl _ _).alloc (Nat.le_refl _) _
  have sV : V.heap.size = w1.heap.size + 1 := by rw [hV]; simp
  obtain ⟨V2, hV2⟩ : ∃ V2, V2 = V.alloc (.cells #[] 3) := ⟨_, rfl⟩
  have BV2 : Below V.heap.size V V2 := by rw [hV2]; exact (Below.refl _ _).alloc (Nat.le_refl _) _
  have HM2 : Hid (HM V2 W.heap.size s0 H) := hm_later (hm_later HM1.out BV) BV2
  have HB2 : Hid (Below w.heap.size w V2) := HBl.out.trans ((BV.trans (BV2.mono BV.size)).mono HBl.out.size)
  have HO2 : Hid (ownI V2 w1.heap.size (.slice (some ⟨w1.heap.size + 1, 0, none⟩) 0 0) []) := by
    show ownI _ _ _ _
    rw [hV2, ← sV]
    exact ownI_new V _ BV.size
  have HSB : Hid (∀ g, HasB s0 g → g < w1.heap.size) := fun g hg => (hm_bl HM1.out hg).2
  have FF := (F1.later BV).later BV2
  have FF2 := (RF.later BV).later BV2
  have XF : Four V2 w1.heap.size (.slice s0.oa s0.os.length s0.oc) (.slice s0.wa s0.wn s0.wc) (.slice s0.ba s0.bn s0.bc) (.slice s0.sa s0.sn s0.sc) := (show Four V w1.heap.size _ _ _ _ by rw [hV]; exact Four.new w1 _ _ _ _).later BV2
  have y0 : V2.cell? ⟨w1.heap.size, 0, none⟩ = some (.slice s0.oa s0.os.length s0.oc) := XF.cell 0
  have y1 : V2.cell? ⟨w1.heap.size, 1, none⟩ = some (.slice s0.wa s0.wn s0.wc) := XF.cell 1
  have y2 : V2.cell? ⟨w1.heap.size, 2, none⟩ = some (.slice s0.ba s0.bn s0.bc) := XF.cell 2
  have y3 : V2.cell? ⟨w1.heap.size, 3, none⟩ = some (.slice s0.sa s0.sn s0.sc) := XF.cell 3
  have d0 : V2.cell? ⟨w.heap.size, 0, none⟩ = some (.slice ao no co) := FF.cell 0
  have p0 := FF2.cell 0
  have p1 := FF2.cell 1
  have p2 := FF2.cell 2
  have p3 := FF2.cell 3
  have g0 := FF2.frozen 0
  have g1 := FF2.frozen 1
  have g2 := FF2.frozen 2
  have g3 := FF2.frozen 3
  simp only [List.getElem?_toArray, List.getElem?_cons_zero, List.getElem?_cons_succ] at p0 p1 p2 p3
  rw [hV2, hV] at y0 y1 y2 y3 d0 p0 p1 p2 p3 g0 g1 g2 g3
  rw [hV] at hV2
  clear M1 b1 F1 FH FR RF BW CC sW FF FF2 XF BV BV2 sV hV c0 r0 r1 r2 r3 z0 z1 z2 z3 hq0 hn0 hq1 hn1
  go_wp2
  rw [← hV2]
  have e3 := HsW.out
  refine bodyPost_ret (v := .tuple #[.agg #[.slice s0.oa s0.os.length s0.oc, .slice s0.wa s0.wn s0.wc, .slice s0.ba s0.bn s0.bc, .slice s0.sa s0.sn s0.sc], .slice (some ⟨w1.heap.size + 1, 0, none⟩) 0 0]) (by simp [results, Try.results19, go_sem, *]) rfl ⟨s0, .slice (some ⟨w1.heap.size + 1, 0, none⟩) 0 0, rfl, ?_, ?_, ?_, ?_⟩
  · refine hm_mono (hm_keepB HM2.out ?_) (by omega)
    exact (((keepB_set _ _ ⟨w.heap.size + 1, 0, none⟩ _ (by simp only; omega)).trans (keepB_set _ _ ⟨w.heap.size + 1, 1, none⟩ _ (by simp only; omega))).trans (keepB_set _ _ ⟨w.heap.size + 1, 2, none⟩ _ (by simp only; omega))).trans (keepB_set _ _ ⟨w.heap.size + 1, 3, none⟩ _ (by simp only; omega))
  · exact ownI_mono (ownI_same (w' := setFour V2 (w.heap.size + 1) _ _ _ _) HO2.out (fun g hg => setFour_other _ _ _ _ _ _ g (by have := (ownI_lt HO2.out g hg).1; omega))) (by omega)
  · intro g hg hh
    injection hg with hg
    simp only at hg
    have := HSB.out g hh
    omega
  · iterate 4 refine Below.setCell ?_ (by simp only; omega) _
    exact HB2.out
end Go.Proofs.Ytnjplfofcjonhaa

namespace Go.Proofs.Ytnjplfofcjonhaa
open Go.RowKit
set_option linter.unusedVariables false
set_option maxRecDepth 100000
theorem hshv (s : HSh) : s.v = .agg #[.slice s.oa s.os.length s.oc, .slice s.wa s.wn s.wc, .slice s.ba s.bn s.bc, .slice s.sa s.sn s.sc] := rfl
theorem mark_has {s : HSh} (q : Addr × Value) (hq : q ∈ markL s) : HasB s q.1.block := by
  unfold markL at hq
  simp only [List.mem_append] at hq
  rcases hq with hq | hq | hq | hq
  · obtain ⟨x, hx, ⟨j2, i, hj2, h1, h2, h3⟩ | ⟨t, ht, h4, y, h5, h6⟩⟩ := mkO_where s 1 q hq
    · exact .inl ⟨x, hx, by rw [h3]⟩
    · exact .inr (.inr (.inr (.inr ⟨t, ht, y, h5, h6.symm⟩)))
  · obtain ⟨h1, x, h2, h3⟩ := mkW_block _ _ _ _ hq
    exact .inr (.inl ⟨x, h2, h3.symm⟩)
  · obtain ⟨h1, x, h2, h3⟩ := mkI_block _ _ _ _ hq
    exact .inr (.inr (.inl ⟨x, h2, h3.symm⟩))
  · obtain ⟨h1, x, h2, h3⟩ := mkS_block _ _ _ _ hq
    exact .inr (.inr (.inr (.inl ⟨x, h2, h3.symm⟩)))
theorem heldH_far {w : World} {s : HSh} (L : Sts) (h : HeldH w s) (hL : ∀ q ∈ L, ¬ HasB s q.1.block) : HeldH (stores w L) s := by
  refine ⟨fun q hq => ?_, fun j hj => ?_, h.wk, h.b, h.st⟩
  · rw [stores_other _ _ (fun p hp e => hL p hp (by rw [e]; exact mark_has q hq))]
    exact h.all q hq
  · obtain ⟨g, off, h1, h2, h3, h4⟩ := h.head j hj
    refine ⟨g, off, h1, by rw [stores_size]; exact h2, ?_, h4⟩
    rw [stores_other _ _ (fun p hp e => hL p hp (.inl ⟨_, h1, by rw [e]⟩))]
    exact h3
theorem heldI_of {w : World} {a : Option Addr} {n : Nat} {k : Int} (h : CanI w a n) : ∀ p ∈ mkI a k n, (stores w (mkI a k n)).cell? p.1 = some p.2 := stores_mem _ (mkI_nodup a k n) w (fun p hp => mkI_some h p hp)
def CollAt (f : Nat) (H : HeapD) (R : HeapD × List Int) : Prop := ∀ X u, RdH X u H → CapH u → Calls Try.prog f #[u] X fun e w' => ∃ (s : HSh) (vf : Value), e = .returned (.tuple #[s.v, vf]) ∧ HM w' X.heap.size s R.1 ∧ ownI w' X.heap.size vf R.2 ∧ (∀ g, vf.ownBlock = some g → ¬ HasB s g) ∧ Below X.heap.size X w'
set_option maxHeartbeats 8000000 in
theorem collect_law (v : Value) (H : HeapD) (w : World) (r : RdH w v H) (y : SaneH H) (R : HeapD × List Int)
    (hG : SmallH H → (R.1.objs.length ≤ 16777216 ∧ (∀ z ∈ R.1.objs, z.field.length ≤ 16777216) ∧ R.1.weaks.length ≤ 16777216 ∧ R.1.buffer.length ≤ 16777216 ∧ R.1.sites.length ≤ 16777216) ∧ R.2.length ≤ 16777216)
    (hS : SmallH H → CollAt 19 H R) (hI : SmallH H → CollAt 21 H R) :
    Calls Try.prog 4 #[v] w fun e w' => e = .returned (.bool true) ∧ Below w.heap.size w w' := by
  have RR : Hid (∀ X, Below w.heap.size w X → RdH X v H) := fun X hX => rdH_later r hX
  have CZ : Hid (∀ X, Below w.heap.size w X → _) := fun X hX => szHeap_calls X v H 1048576 (RR.out X hX) y (by omega) (by omega)
  have VH : Hid (∃ a0 n0 k0 a1 n1 k1 a2 n2 k2 a3 n3 k3, v = .agg #[.slice a0 n0 k0, .slice a1 n1 k1, .slice a2 n2 k2, .slice a3 n3 k3]) := rdH_form r
  clear r
  obtain ⟨a0, n0, k0, a1, n1, k1, a2, n2, k2, a3, n3, k3, rfl⟩ := VH.out
  obtain ⟨W, hW⟩ : ∃ W, W = w.alloc (.cells #[.slice a0 n0 k0, .slice a1 n1 k1, .slice a2 n2 k2, .slice a3 n3 k3] 45) := ⟨_, rfl⟩
  have BW : Below w.heap.size w W := by rw [hW]; exact (Below.refl _ _).alloc (Nat.le_refl _) _
  have hWs : W.heap.size = w.heap.size + 1 := by rw [hW]; simp
  by_cases hz : szH H 1048576 < 0
  · clear hS hI hG
    generalize szH H 1048576 = z at *
    go_enter Try.func4, Try.ntmps4
    go_wp2_with fail
    rw [← hW]
    clear hW
    refine (CZ.out _ BW).mono ?_
    rintro e w1 ⟨rfl, b1⟩
    have B1 := BW.trans (b1.mono BW.size)
    clear BW b1
    go_wp2
    go_ret
    exact ⟨rfl, B1⟩
  · have hsm := szH_small H hz
    have CT : Hid (∀ X, Below w.heap.size w X → _) := fun X hX => toHeap_calls X _ H (RR.out X hX) hsm
    have CE : Hid (∀ X u1 u2, RdH X u1 H → RdH X u2 H → _) := fun X u1 u2 h1 h2 => eqHeap_calls X u1 u2 H h1 h2 hsm
    obtain ⟨hG1, hG2⟩ := hG hsm
    have CG : Hid (∀ X u1 u2, RdH X u1 R.1 → RdH X u2 R.1 → Calls Try.prog 22 #[u1, u2] X fun e w' => e = .returned (.bool true) ∧ Below X.heap.size X w') := fun X u1 u2 h1 h2 => eqHeap_big X u1 u2 R.1 h1 h2 hG1.1 hG1.2.1 hG1.2.2.1 hG1.2.2.2.1 hG1.2.2.2.2
    have CIQ : Hid (∀ X a b c d, RdI X a R.2 → RdI X b R.2 → _) := fun X a b c d h1 h2 => eqIntS_rd X a b c d R.2 h1 h2 hG2
    have CS : Hid (∀ X u, RdH X u H → CapH u → _) := hS hsm
    have CI : Hid (∀ X u, RdH X u H → CapH u → _) := hI hsm
    have HGL : Hid _ := hG1
    have HC : Hid (∀ X B u, OwnH X B u H → ∃ s : HSh, u = s.v ∧ CanH X s ∧ ∀ q ∈ markL s, B ≤ q.1.block) := fun X B u h => ownH_can h hsm
    obtain ⟨N, hN⟩ : ∃ N, R.2.length = N := ⟨_, rfl⟩
    have HN : Hid (R.2.length = N) := hN
    rw [hN] at CIQ hG2
    have hK : Hid (∀ (X : World) (s : HSh), CanH X s → (0 : Int) ≤ (s.k3 : Int) + (s.sn : Int) ∧ (s.k3 : Int) + (s.sn : Int) ≤ 1000000000000000) := fun X s hc => by
      have h1 := cntO_bd s.os hc.lo hc.lf
      have h2 := hc.lw
      have h3 := hc.lb
      have h4 := hc.ls
      unfold HSh.k3
      omega
    clear hS hI hsm hG hG1 hN RR VH
    generalize szH H 1048576 = z at *
    have hz2 : 0 ≤ z := by omega
    have HK : Hid (∀ X, Below W.heap.size W X → _) := fun X (hX : Below W.heap.size W X) => four_kept w 45 (.slice a0 n0 k0) (.slice a1 n1 k1) (.slice a2 n2 k2) (.slice a3 n3 k3) X (by rw [hWs, hW] at hX; exact hX)
    have HWB : Hid (∀ X, Below W.heap.size W X → Below w.heap.size w X) := fun X hX => BW.trans (hX.mono BW.size)
    clear hz
    go_enter Try.func4, Try.ntmps4
    go_wp2_with fail
    rw [← hW]
    refine (CZ.out _ BW).mono ?_
    rintro e w1 ⟨rfl, T1⟩
    obtain ⟨c0, c1, c2, c3⟩ := HK.out _ T1
    have hs1 := T1.size
    have B1 := HWB.out _ T1
    clear hW CZ BW
    go_wp2_with fail
    refine (CT.out _ B1).mono ?_
    rintro e w2 ⟨u2, rfl, O2, b2⟩
    have T2 := T1.trans (b2.mono T1.size)
    have hs2 := b2.size
    clear c0 c1 c2 c3 b2 B1 T1
    go_wp2_with fail
    refine (CS.out _ u2 (ownH_rd O2) (ownH_cap O2)).mono ?_
    rintro e w3 ⟨sW, vfW, rfl, M3, I3, -, b3⟩
    have T3 := T2.trans (b3.mono T2.size)
    have hs3 := b3.size
    have R3 : Hid (RdH w3 sW.v R.1) := hm_rd M3
    obtain ⟨fW, fcW, hvW, hrW⟩ := rdI_own' I3
    rw [HN.out] at hvW
    subst hvW
    obtain ⟨V3, hV3⟩ : ∃ V, V = w3.alloc (.cells #[.slice sW.oa sW.os.length sW.oc, .slice sW.wa sW.wn sW.wc, .slice sW.ba sW.bn sW.bc, .slice sW.sa sW.sn sW.sc] 29) := ⟨_, rfl⟩
    have BV3 : Below w3.heap.size w3 V3 := by rw [hV3]; exact (Below.refl _ _).alloc (Nat.le_refl _) _
    have hV3s : V3.heap.size = w3.heap.size + 1 := by rw [hV3]; simp
    have HX6 : Hid (∀ X, Below V3.heap.size V3 X → Four X w3.heap.size (.slice sW.oa sW.os.length sW.oc) (.slice sW.wa sW.wn sW.wc) (.slice sW.ba sW.bn sW.bc) (.slice sW.sa sW.sn sW.sc)) := fun X hX => by
      have f : Four V3 w3.heap.size (.slice sW.oa sW.os.length sW.oc) (.slice sW.wa sW.wn sW.wc) (.slice sW.ba sW.bn sW.bc) (.slice sW.sa sW.sn sW.sc) := by rw [hV3]; exact Four.new w3 _ _ _ _
      exact f.later hX
    have HRW : Hid (∀ X, Below V3.heap.size V3 X → RdH X (.agg #[.slice sW.oa sW.os.length sW.oc, .slice sW.wa sW.wn sW.wc, .slice sW.ba sW.bn sW.bc, .slice sW.sa sW.sn sW.sc]) R.1) := fun X hX => rdH_later (rdH_later R3.out BV3) hX
    have HIW : Hid (∀ X, Below V3.heap.size V3 X → RdI X fW R.2) := fun X hX => rdI_later (rdI_later hrW BV3) hX
    have TV3 := T3.trans (BV3.mono T3.size)
    have HT3 : Hid (∀ X, Below V3.heap.size V3 X → Below W.heap.size W X) := fun X hX => TV3.trans (hX.mono TV3.size)
    obtain ⟨c0, c1, c2, c3⟩ := HK.out _ T3
    have hq3 : w.heap.size < w3.heap.size := by omega
    have hn3 : ¬ w.heap.size = w3.heap.size := by omega
    rw [hshv]
    clear O2 M3 I3 b3 T2 T3 BV3 R3 hrW
    go_wp2_with fail
    rw [← hV3]
    clear hV3 c0 c1 c2 c3
    refine (CT.out _ (HWB.out _ TV3)).mono ?_
    rintro e w4 ⟨u4, rfl, O4, b4⟩
    have hs4 := b4.size
    obtain ⟨s4, hus, K4, M4⟩ := HC.out _ _ _ O4
    have HR4 : Hid (∀ X, Below w4.heap.size w4 X → RdH X u4 H) := fun X hX => ownH_rd (ownH_later O4 hX)
    have HCP : Hid (CapH u4) := ownH_cap O4
    have HM4 : Hid (∀ q ∈ markL s4, V3.heap.size ≤ q.1.block) := M4
    have HK4 : Hid (CanH w4 s4) := K4
    subst hus
    obtain ⟨V4, hV4⟩ : ∃ V, V = w4.alloc (.cells #[.slice s4.oa s4.os.length s4.oc, .slice s4.wa s4.wn s4.wc, .slice s4.ba s4.bn s4.bc, .slice s4.sa s4.sn s4.sc] 29) := ⟨_, rfl⟩
    have BV4 : Below w4.heap.size w4 V4 := by rw [hV4]; exact (Below.refl _ _).alloc (Nat.le_refl _) _
    have hV4s : V4.heap.size = w4.heap.size + 1 := by rw [hV4]; simp
    have HX7 : Hid (∀ X, Below V4.heap.size V4 X → Four X w4.heap.size (.slice s4.oa s4.os.length s4.oc) (.slice s4.wa s4.wn s4.wc) (.slice s4.ba s4.bn s4.bc) (.slice s4.sa s4.sn s4.sc)) := fun X hX => by
      have f : Four V4 w4.heap.size (.slice s4.oa s4.os.length s4.oc) (.slice s4.wa s4.wn s4.wc) (.slice s4.ba s4.bn s4.bc) (.slice s4.sa s4.sn s4.sc) := by rw [hV4]; exact Four.new w4 _ _ _ _
      exact f.later hX
    have A4 : Below V3.heap.size V3 V4 := b4.trans (BV4.mono b4.size)
    have hv4 := hshv s4
    rw [hv4]
    rw [hv4] at HR4 HCP
    obtain ⟨w4b, hw4b⟩ : ∃ w4b, V4 = w4b := ⟨_, rfl⟩
    have HC4b : Hid (Below w4.heap.size w4 w4b) := by rw [← hw4b]; exact BV4
    have HA4b : Hid (Below V3.heap.size V3 w4b) := by rw [← hw4b]; exact A4
    have HX7b : Hid (∀ X, Below w4b.heap.size w4b X → Four X w4.heap.size (.slice s4.oa s4.os.length s4.oc) (.slice s4.wa s4.wn s4.wc) (.slice s4.ba s4.bn s4.bc) (.slice s4.sa s4.sn s4.sc)) := by rw [← hw4b]; exact HX7.out
    have hw4s : V4.heap.size = w4b.heap.size := by rw [hw4b]
    rw [hw4b] at hV4
    clear O4 K4 M4 b4 HC CS A4 BV4 HX7
    go_wp2_with fail
    rw [← hV4]
    clear hV4 hw4b
    refine (CI.out _ _ (HR4.out _ HC4b.out) HCP.out).mono ?_
    rintro e w5 ⟨sG, vG, rfl, M5, I5, D5, b5⟩
    have hs5 := b5.size
    have HM5 : Hid (HM w5 w4b.heap.size sG R.1) := M5
    obtain ⟨ga, gc, hvG, CG5, hgB⟩ := ownI_can I5
    rw [HN.out] at hvG
    have HI5 : Hid (∀ X, Below w5.heap.size w5 X → ownI X w4b.heap.size (.slice ga N gc) R.2) := fun X hX => by rw [← hvG]; exact ownI_later I5 hX
    have HD5 : Hid (∀ g, (Value.slice ga N gc).ownBlock = some g → ¬ HasB sG g) := fun g hg => D5 g (by rw [hvG]; exact hg)
    have HGB : Hid (∀ x, ga = some x → w4b.heap.size ≤ x.block ∧ x.block < w5.heap.size) := fun x hx => ⟨hgB x hx, (ownI_lt I5 _ (by rw [hvG, hx]; rfl)).2⟩
    subst hvG
    obtain ⟨V5, hV5⟩ : ∃ V, V = w5.alloc (.cells #[.slice sG.oa sG.os.length sG.oc, .slice sG.wa sG.wn sG.wc, .slice sG.ba sG.bn sG.bc, .slice sG.sa sG.sn sG.sc] 29) := ⟨_, rfl⟩
    have BV5 : Below w5.heap.size w5 V5 := by rw [hV5]; exact (Below.refl _ _).alloc (Nat.le_refl _) _
    have hV5s : V5.heap.size = w5.heap.size + 1 := by rw [hV5]; simp
    have HX8 : Hid (Four V5 w5.heap.size (.slice sG.oa sG.os.length sG.oc) (.slice sG.wa sG.wn sG.wc) (.slice sG.ba sG.bn sG.bc) (.slice sG.sa sG.sn sG.sc)) := by rw [hV5]; exact Four.new w5 _ _ _ _
    have C5 : Below w4b.heap.size w4b V5 := b5.trans (BV5.mono b5.size)
    have A5 : Below V3.heap.size V3 V5 := HA4b.out.trans (C5.mono HA4b.out.size)
    have HM5V : Hid (HM V5 w4b.heap.size sG R.1) := hm_later M5 BV5
    have HI5V : Hid (∀ X, Below V5.heap.size V5 X → ownI X w4b.heap.size (.slice ga N gc) R.2) := fun X hX => HI5.out X (BV5.trans (hX.mono BV5.size))
    have x6 := HX6.out _ (HA4b.out.trans (b5.mono HA4b.out.size))
    have d0 := x6.cell 0
    have d1 := x6.cell 1
    have d2 := x6.cell 2
    have d3 := x6.cell 3
    simp only [List.getElem?_toArray, List.getElem?_cons_zero, List.getElem?_cons_succ] at d0 d1 d2 d3
    have hq5 : w3.heap.size < w5.heap.size := by omega
    have hn5 : ¬ w3.heap.size = w5.heap.size := by omega
    have hvG := hshv sG
    have RG : RdH V5 (.agg #[.slice sG.oa sG.os.length sG.oc, .slice sG.wa sG.wn sG.wc, .slice sG.ba sG.bn sG.bc, .slice sG.sa sG.sn sG.sc]) R.1 := hm_rd HM5V.out
    have HRG : Hid (RdH V5 (.agg #[.slice sG.oa sG.os.length sG.oc, .slice sG.wa sG.wn sG.wc, .slice sG.ba sG.bn sG.bc, .slice sG.sa sG.sn sG.sc]) R.1) := RG
    have HC5 : Hid (Below w4b.heap.size w4b V5) := C5
    have HA5 : Hid (Below V3.heap.size V3 V5) := A5
    have HC4 : Hid (Below w4.heap.size w4 V5) := HC4b.out.trans (C5.mono HC4b.out.size)
    rw [hvG]
    clear M5 I5 D5 b5 BV5 C5 A5 x6 RG TV3 CG5 hgB
    go_wp2_with fail
    rw [← hV5]
    clear hV5 d0 d1 d2 d3
    refine (CG.out _ _ _ HRG.out (HRW.out _ HA5.out)).mono ?_
    rintro e w6 ⟨rfl, b6⟩
    have hs6 := b6.size
    have A6 := HA5.out.trans (b6.mono HA5.out.size)
    go_wp2_with fail
    have hrdG : ∀ X, Below V5.heap.size V5 X → RdI X ga R.2 := fun X hX => by
      obtain ⟨a', c', e', hr'⟩ := rdI_own' (HI5V.out X hX)
      simp only [Value.slice.injEq] at e'
      rw [e'.1]; exact hr'
    have HRDG : Hid (∀ X, Below V5.heap.size V5 X → RdI X ga R.2) := hrdG
    clear hrdG
    refine (CIQ.out _ ga fW gc fcW (HRDG.out _ b6) (HIW.out _ A6)).mono ?_
    rintro e w6b ⟨rfl, b6b⟩
    have B6b : Below V5.heap.size V5 w6b := b6.trans (b6b.mono b6.size)
    have HB6 : Hid (Below V5.heap.size V5 w6b) := B6b
    have hs6b := B6b.size
    clear b6 b6b A6 hs6
    have HT6 : Hid (∀ X, Below w6b.heap.size w6b X → Below w.heap.size w X) := fun X hX => HWB.out _ (HT3.out _ (HA5.out.trans ((B6b.trans (hX.mono B6b.size)).mono HA5.out.size)))
    have HS : Hid (∀ X, Below w6b.heap.size w6b X → (X.cell? ⟨w.heap.size, 0, none⟩ = some (.slice a0 n0 k0) ∧ X.cell? ⟨w.heap.size, 1, none⟩ = some (.slice a1 n1 k1) ∧ X.cell? ⟨w.heap.size, 2, none⟩ = some (.slice a2 n2 k2) ∧ X.cell? ⟨w.heap.size, 3, none⟩ = some (.slice a3 n3 k3)) ∧
        X.cell? ⟨w4.heap.size, 0, none⟩ = some (.slice s4.oa s4.os.length s4.oc) ∧ X.cell? ⟨w4.heap.size, 1, none⟩ = some (.slice s4.wa s4.wn s4.wc) ∧ X.cell? ⟨w4.heap.size, 2, none⟩ = some (.slice s4.ba s4.bn s4.bc) ∧ X.cell? ⟨w4.heap.size, 3, none⟩ = some (.slice s4.sa s4.sn s4.sc)) := fun X hX => by
      have h7 := HX7b.out X (HC5.out.trans ((B6b.trans (hX.mono B6b.size)).mono HC5.out.size))
      exact ⟨HK.out X (HT3.out _ (HA5.out.trans ((B6b.trans (hX.mono B6b.size)).mono HA5.out.size))), h7.cell 0, h7.cell 1, h7.cell 2, h7.cell 3⟩
    have HR6 : Hid (∀ X, Below w6b.heap.size w6b X → RdH X _ H) := fun X hX => HR4.out X (HC4.out.trans ((B6b.trans (hX.mono B6b.size)).mono HC4.out.size))
    have HT : Hid (∀ X, Below w6b.heap.size w6b X → _) := fun X hX => CT.out X (HT6.out X hX)
    obtain ⟨⟨c0, c1, c2, c3⟩, e0, e1, e2, e3⟩ := HS.out w6b (Below.refl _ _)
    have D6 : Below w6b.heap.size w6b w6b.drew := (Below.refl _ _).drew
    clear B6b
    go_wp2_with fail
    go_region_held (fun X => (X.cell? ⟨w.heap.size, 0, none⟩ = some (.slice a0 n0 k0) ∧ X.cell? ⟨w.heap.size, 1, none⟩ = some (.slice a1 n1 k1) ∧ X.cell? ⟨w.heap.size, 2, none⟩ = some (.slice a2 n2 k2) ∧ X.cell? ⟨w.heap.size, 3, none⟩ = some (.slice a3 n3 k3)) ∧
        X.cell? ⟨w4.heap.size, 0, none⟩ = some (.slice s4.oa s4.os.length s4.oc) ∧ X.cell? ⟨w4.heap.size, 1, none⟩ = some (.slice s4.wa s4.wn s4.wc) ∧ X.cell? ⟨w4.heap.size, 2, none⟩ = some (.slice s4.ba s4.bn s4.bc) ∧ X.cell? ⟨w4.heap.size, 3, none⟩ = some (.slice s4.sa s4.sn s4.sc))
      (first | exact HS.out _ B9 | exact HS.out _ B8 | exact HS.out _ D6)
      (first
        | (go_at_call 20; refine (HT.out _ D6).mono ?_; rintro e w8 ⟨u8, rfl, O8, b8⟩; have B8 := D6.trans (b8.mono D6.size))
        | (go_at_call 22; refine (CE.out _ _ _ (HR6.out _ B8) (ownH_rd O8)).mono ?_; rintro e w9 ⟨rfl, b9⟩; have B9 := B8.trans (b9.mono B8.size)))
    all_goals
      clear c0 c1 c2 c3 e0 e1 e2 e3
      have B59 : Below V5.heap.size V5 w9 := HB6.out.trans (B9.mono HB6.out.size)
      clear HR6 HT b8 O8 b9 B8 HS HT6 B9
      obtain ⟨wB, hwB⟩ : ∃ wB, w9 = wB := ⟨_, rfl⟩
      subst hwB
      have B5B := B59
      clear B59
      have hc4B : CanH w9 s4 := canH_later HK4.out (HC4.out.trans (B5B.mono HC4.out.size))
      have CM : Hid (∀ _ : Unit, _) := fun (_ : Unit) => markHeap_st w9 s4 hc4B
      rw [hv4] at CM
      obtain ⟨hk0, hk9⟩ := hK.out _ _ hc4B
      generalize (s4.k3 : Int) + (s4.sn : Int) = K at CM hk0 hk9
      have HLT : Hid (∀ q ∈ markL s4, V3.heap.size ≤ q.1.block ∧ q.1.block < w4.heap.size) := fun q hq => ⟨HM4.out q hq, (markL_lt HK4.out q hq).1⟩
      generalize markL s4 = L1 at CM HLT
      have x7 := HX7b.out _ (HC5.out.trans (B5B.mono HC5.out.size))
      have e0 := x7.cell 0
      have e1 := x7.cell 1
      have e2 := x7.cell 2
      have e3 := x7.cell 3
      simp only [List.getElem?_toArray, List.getElem?_cons_zero, List.getElem?_cons_succ] at e0 e1 e2 e3
      have HM9 : Hid (HM w9 w4b.heap.size sG R.1) := hm_later HM5V.out B5B
      have HX9 : Hid (Four w9 w5.heap.size (.slice sG.oa sG.os.length sG.oc) (.slice sG.wa sG.wn sG.wc) (.slice sG.ba sG.bn sG.bc) (.slice sG.sa sG.sn sG.sc)) := HX8.out.later B5B
      have HI9 : Hid (ownI w9 w4b.heap.size (.slice ga N gc) R.2) := HI5V.out _ B5B
      have A9 : Below V3.heap.size V3 w9 := HA5.out.trans (B5B.mono HA5.out.size)
      have hs9 := B5B.size
      clear x7 hc4B B5B D6
      go_wp2_with fail
      refine (CM.out ()).mono ?_
      rintro e w10 ⟨rfl, b10⟩
      have hss : (stores w9 L1).heap.size = w9.heap.size := stores_size _ _
      have hs10 : w9.heap.size ≤ w10.heap.size := by rw [← hss]; exact b10.size
      have N10 : Below V3.heap.size w9 w10 := (stores_below L1 (fun q hq => (HLT.out q hq).1) w9 (Below.refl _ _)).trans (b10.mono (by omega))
      have A10 : Below V3.heap.size V3 w10 := A9.trans N10
      have KB : KeepB V4.heap.size w9 w10 := ⟨hs10, fun g hg hl => by
        rw [b10.block g hl, stores_block L1 g (fun q hq e => by have := (HLT.out q hq).2; omega)]⟩
      have HKB : Hid (KeepB V4.heap.size w9 w10) := KB
      clear hss b10 CM N10 A9 e0 e1 e2 e3 KB HLT
      have A10b := A10
      have KB2 : KeepB w4b.heap.size w9 w10 := ⟨HKB.out.1, fun g hg hl => HKB.out.2 g (by omega) hl⟩
      have HM10 : Hid (HM w10 w4b.heap.size sG R.1) := hm_keepB HM9.out KB2
      have HX10 : Hid (Four w10 w5.heap.size (.slice sG.oa sG.os.length sG.oc) (.slice sG.wa sG.wn sG.wc) (.slice sG.ba sG.bn sG.bc) (.slice sG.sa sG.sn sG.sc)) := HX9.out.same (KB2.2 w5.heap.size (by omega) (by omega))
      have HI10 : Hid (ownI w10 w4b.heap.size (.slice ga N gc) R.2) := ownI_same HI9.out (fun g hg => KB2.2 g (ownI_lt HI9.out g hg).1 (ownI_lt HI9.out g hg).2)
      have x6 := HX6.out _ A10b
      have d0 := x6.cell 0
      have d1 := x6.cell 1
      have d2 := x6.cell 2
      have d3 := x6.cell 3
      have x8 := HX10.out
      have g0 := x8.cell 0
      have g1 := x8.cell 1
      have g2 := x8.cell 2
      have g3 := x8.cell 3
      simp only [List.getElem?_toArray, List.getElem?_cons_zero, List.getElem?_cons_succ] at d0 d1 d2 d3 g0 g1 g2 g3
      have HRG2 : Hid (RdH w10 (.agg #[.slice sG.oa sG.os.length sG.oc, .slice sG.wa sG.wn sG.wc, .slice sG.ba sG.bn sG.bc, .slice sG.sa sG.sn sG.sc]) R.1) := hm_rd HM10.out
      clear A10 KB2 x6 x8 HKB HX9 HM9 HI9
      go_wp2_with fail
      refine (CG.out _ _ _ HRG2.out (HRW.out _ A10b)).mono ?_
      rintro e w11 ⟨rfl, b11⟩
      have A11 := A10b.trans (b11.mono A10b.size)
      have HI11 : Hid (ownI w11 w4b.heap.size (.slice ga N gc) R.2) := ownI_later HI10.out b11
      have hrd11 : RdI w11 ga R.2 := by
        obtain ⟨a', c', e', hr'⟩ := rdI_own' HI11.out
        simp only [Value.slice.injEq] at e'
        rw [e'.1]; exact hr'
      have HRD11 : Hid (RdI w11 ga R.2) := hrd11
      have HM11 : Hid (HM w11 w4b.heap.size sG R.1) := hm_later HM10.out b11
      have HX11 : Hid (Four w11 w5.heap.size (.slice sG.oa sG.os.length sG.oc) (.slice sG.wa sG.wn sG.wc) (.slice sG.ba sG.bn sG.bc) (.slice sG.sa sG.sn sG.sc)) := HX10.out.later b11
      have hs11 := b11.size
      clear d0 d1 d2 d3 g0 g1 g2 g3 b11 A10b HM10 HX10 HI10 HRG2 hrd11
      go_wp2_with fail
      refine (CIQ.out _ ga fW gc fcW HRD11.out (HIW.out _ A11)).mono ?_
      rintro e w12 ⟨rfl, b12⟩
      have A12 := A11.trans (b12.mono A11.size)
      have HI12 : Hid (ownI w12 w4b.heap.size (.slice ga N gc) R.2) := ownI_later HI11.out b12
      have M12 : HM w12 w4b.heap.size sG R.1 := hm_later HM11.out b12
      have X12 := HX11.out.later b12
      have MM : MemH w12 w4b.heap.size sG R.1 := hm_mem M12 HGL.out.1 HGL.out.2.1 HGL.out.2.2.1 HGL.out.2.2.2.1 HGL.out.2.2.2.2
      have CM : Hid (∀ _ : Unit, _) := fun (_ : Unit) => markHeap_st w12 sG MM.can
      obtain ⟨hk1, hk8⟩ := hK.out _ _ MM.can
      have HLT : Hid (∀ q ∈ markL sG, w4b.heap.size ≤ q.1.block ∧ q.1.block ≠ w5.heap.size ∧ HasB sG q.1.block) := fun q hq => ⟨lo_mark MM.lo q hq, fun e => by
        have hq2 := (hm_bl HM5.out (mark_has q hq)).2
        omega, mark_has q hq⟩
      have HH : Hid (∀ X, Below w12.heap.size (stores w12 (markL sG)) X → HeldH X sG) := fun X hX => memH_held MM hX
      have CH : Hid (∀ X, HeldH X sG → _) := fun X hX => heldHeap_at X sG hX ⟨MM.can.lo, MM.can.lf, MM.can.lw, MM.can.lb, MM.can.ls⟩
      rw [hvG] at CM CH
      generalize (sG.k3 : Int) + (sG.sn : Int) = K2 at CM hk1 hk8 CH
      generalize markL sG = L2 at CM HLT HH
      have hs12 := b12.size
      have g0 := X12.cell 0
      have g1 := X12.cell 1
      have g2 := X12.cell 2
      have g3 := X12.cell 3
      simp only [List.getElem?_toArray, List.getElem?_cons_zero, List.getElem?_cons_succ] at g0 g1 g2 g3
      have HX12 : Hid (Four w12 w5.heap.size (.slice sG.oa sG.os.length sG.oc) (.slice sG.wa sG.wn sG.wc) (.slice sG.ba sG.bn sG.bc) (.slice sG.sa sG.sn sG.sc)) := X12
      clear M12 X12 MM b12 A11 HX11 HM11 HI11 HRD11
      go_wp2_with fail
      refine (CM.out ()).mono ?_
      rintro e w13 ⟨rfl, b13⟩
      have hss : (stores w12 L2).heap.size = w12.heap.size := stores_size _ _
      have hs13 : w12.heap.size ≤ w13.heap.size := by rw [← hss]; exact b13.size
      have N13 : Below w4b.heap.size w12 w13 := (stores_below L2 (fun q hq => (HLT.out q hq).1) w12 (Below.refl _ _)).trans (b13.mono (by omega))
      have A13 : Below V3.heap.size V3 w13 := A12.trans (N13.mono HA4b.out.size)
      have HH13 : Hid (HeldH w13 sG) := HH.out _ b13
      have HX13 : Hid (Four w13 w5.heap.size (.slice sG.oa sG.os.length sG.oc) (.slice sG.wa sG.wn sG.wc) (.slice sG.ba sG.bn sG.bc) (.slice sG.sa sG.sn sG.sc)) := HX12.out.same (by
        rw [b13.block _ (by omega), stores_block L2 _ (fun q hq => (HLT.out q hq).2.1)])
      have HI13 : Hid (ownI w13 w4b.heap.size (.slice ga N gc) R.2) := ownI_same HI12.out (fun g hg => by
        rw [b13.block g (ownI_lt HI12.out g hg).2, stores_block L2 g (fun q hq e => HD5.out g hg (by rw [← e]; exact (HLT.out q hq).2.2))])
      have HCG : Hid (CanI w13 ga N) := by
        obtain ⟨a', c', e', hc', _⟩ := ownI_can HI13.out
        simp only [Value.slice.injEq] at e'
        show CanI w13 ga N
        rw [e'.1, ← HN.out]; exact hc'
      clear hss b13 CM N13 A12 g0 g1 g2 g3 HH HLT HX12 HI12
      -- the freed ids are marked
      go_wp2_with fail
      refine (markIntS_st w13 ga N gc K2 HCG.out (by omega) hk1 hk8).mono ?_
      rintro e w14 ⟨rfl, hw14⟩
      have HLG : Hid (∀ q ∈ mkI ga K2 N, w4b.heap.size ≤ q.1.block ∧ q.1.block < w5.heap.size ∧ ¬ HasB sG q.1.block) := fun q hq => by
        obtain ⟨_, x, hx, e⟩ := mkI_block _ _ _ _ hq
        rw [e]; exact ⟨(HGB.out x hx).1, (HGB.out x hx).2, HD5.out _ (by rw [hx]; rfl)⟩
      have hs14 : w14.heap.size = w13.heap.size := by rw [hw14, stores_size]
      have A14 : Below V3.heap.size V3 w14 := by rw [hw14]; exact stores_below _ (fun q hq => by have h1 := (HLG.out q hq).1; have h2 := HA4b.out.size; omega) w13 A13
      have HH14 : Hid (HeldH w14 sG) := by show HeldH w14 sG; rw [hw14]; exact heldH_far _ HH13.out (fun q hq => (HLG.out q hq).2.2)
      have HX14 : Hid (∀ X, Below w14.heap.size w14 X → Four X w5.heap.size (.slice sG.oa sG.os.length sG.oc) (.slice sG.wa sG.wn sG.wc) (.slice sG.ba sG.bn sG.bc) (.slice sG.sa sG.sn sG.sc)) := fun X hX => by
        have h1 : Four w14 w5.heap.size (.slice sG.oa sG.os.length sG.oc) (.slice sG.wa sG.wn sG.wc) (.slice sG.ba sG.bn sG.bc) (.slice sG.sa sG.sn sG.sc) := HX13.out.same (by rw [hw14, stores_block _ _ (fun q hq e => by have := (HLG.out q hq).2.1; omega)])
        exact h1.later hX
      have HGI : Hid (∀ X, Below w14.heap.size w14 X → ∀ p ∈ mkI ga K2 N, X.cell? p.1 = some p.2) := fun X hX p hp => by
        have h1 := heldI_of (k := K2) HCG.out p hp
        rw [← hw14] at h1
        exact (hX.cell (World.block_lt_of_cell? w14 _ h1)).trans h1
      have HGA : Hid (0 < N → ∃ g off, ga = some ⟨g, off, none⟩) := fun hn => by obtain ⟨g, off, e, _⟩ := HCG.out 0 hn; exact ⟨g, off, e⟩
      have CHI : Hid (∀ X, Below w14.heap.size w14 X → _) := fun X hX => heldIntS_at X ga N gc K2 (HGI.out X hX) HGA.out (by omega) hk1 hk8
      have hkN : (0 : Int) ≤ K2 + (N : Int) := by omega
      generalize K2 + (N : Int) = KN at hkN CHI ⊢
      have x8 := HX14.out _ (Below.refl _ _)
      have g0 := x8.cell 0
      have g1 := x8.cell 1
      have g2 := x8.cell 2
      have g3 := x8.cell 3
      simp only [List.getElem?_toArray, List.getElem?_cons_zero, List.getElem?_cons_succ] at g0 g1 g2 g3
      clear hw14 A13 x8 HX13 HI13 HCG HLG HGI HGA HH13
      go_wp2_with fail
      refine (CH.out _ HH14.out).mono ?_
      rintro e w15 ⟨rfl, b15⟩
      have A15 := A14.trans (b15.mono A14.size)
      have HB15 : Hid (Below w14.heap.size w14 w15) := b15
      clear g0 g1 g2 g3 b15 A14
      go_wp2_with fail
      refine (CHI.out _ HB15.out).mono ?_
      rintro e w15b ⟨rfl, hw15b⟩
      subst hw15b
      have T15 := HT3.out _ A15
      obtain ⟨c0, c1, c2, c3⟩ := HK.out _ T15
      go_wp2_with fail
      refine (CT.out _ (HWB.out _ T15)).mono ?_
      rintro e w16 ⟨u16, rfl, O16, b16⟩
      have A16 := A15.trans (b16.mono A15.size)
      have HB16 : Hid (Below w14.heap.size w14 w16) := HB15.out.trans (b16.mono HB15.out.size)
      clear c0 c1 c2 c3 b16 A15 T15
      go_wp2_with fail
      refine (CI.out _ u16 (ownH_rd O16) (ownH_cap O16)).mono ?_
      rintro e w17 ⟨s17, v17, rfl, M17, I17, -, b17⟩
      have A17 := A16.trans (b17.mono A16.size)
      have HB17 : Hid (Below w14.heap.size w14 w17) := HB16.out.trans (b17.mono HB16.out.size)
      obtain ⟨f17, c17, hv17, hr17⟩ := rdI_own' I17
      rw [HN.out] at hv17
      subst hv17
      have R17 := hm_rd M17
      rw [hshv] at R17 ⊢
      obtain ⟨Y, hY⟩ : ∃ Y, Y = w17.alloc (.cells #[.slice s17.oa s17.os.length s17.oc, .slice s17.wa s17.wn s17.wc, .slice s17.ba s17.bn s17.bc, .slice s17.sa s17.sn s17.sc] 29) := ⟨_, rfl⟩
      have BY : Below w17.heap.size w17 Y := by rw [hY]; exact (Below.refl _ _).alloc (Nat.le_refl _) _
      have AY := A17.trans (BY.mono A17.size)
      have HBY : Hid (Below w14.heap.size w14 Y) := HB17.out.trans (BY.mono HB17.out.size)
      have HRY : Hid (RdH Y (.agg #[.slice s17.oa s17.os.length s17.oc, .slice s17.wa s17.wn s17.wc, .slice s17.ba s17.bn s17.bc, .slice s17.sa s17.sn s17.sc]) R.1) := rdH_later R17 BY
      have HIY : Hid (∀ X, Below Y.heap.size Y X → RdI X f17 R.2) := fun X hX => rdI_later (rdI_later hr17 BY) hX
      have x6 := HX6.out _ A17
      have d0 := x6.cell 0
      have d1 := x6.cell 1
      have d2 := x6.cell 2
      have d3 := x6.cell 3
      simp only [List.getElem?_toArray, List.getElem?_cons_zero, List.getElem?_cons_succ] at d0 d1 d2 d3
      have hq17 : w3.heap.size < w17.heap.size := by have := A17.size; omega
      have hn17 : ¬ w3.heap.size = w17.heap.size := by omega
      clear O16 M17 I17 b17 A16 R17 BY x6 HB16 HB17 hr17
      go_wp2_with fail
      rw [← hY]
      clear hY d0 d1 d2 d3
      refine (CG.out _ _ _ HRY.out (HRW.out _ AY)).mono ?_
      rintro e w18 ⟨rfl, b18⟩
      have A18 := AY.trans (b18.mono AY.size)
      have Z18 := HBY.out.trans (b18.mono HBY.out.size)
      have HI18 : Hid (RdI w18 f17 R.2) := HIY.out _ b18
      clear b18 AY
      go_wp2_with fail
      refine (CIQ.out _ f17 fW c17 fcW HI18.out (HIW.out _ A18)).mono ?_
      rintro e w19 ⟨rfl, b19⟩
      have A19 := A18.trans (b19.mono A18.size)
      have Z19 := Z18.trans (b19.mono Z18.size)
      have HZ19 : Hid (Below w14.heap.size w14 w19) := Z19
      have x8 := HX14.out _ Z19
      have g0 := x8.cell 0
      have g1 := x8.cell 1
      have g2 := x8.cell 2
      have g3 := x8.cell 3
      simp only [List.getElem?_toArray, List.getElem?_cons_zero, List.getElem?_cons_succ] at g0 g1 g2 g3
      clear b19 x8 A18 Z18 Z19
      go_wp2_with fail
      refine (CH.out _ (heldH_later HH14.out HZ19.out)).mono ?_
      rintro e w20 ⟨rfl, b20⟩
      have Z20 := HZ19.out.trans (b20.mono HZ19.out.size)
      have HZ20 : Hid (Below w14.heap.size w14 w20) := Z20
      have T20 := HWB.out _ (HT3.out _ (A19.trans (b20.mono A19.size)))
      clear b20 Z20 A19 g0 g1 g2 g3
      go_wp2_with fail
      refine (CHI.out _ HZ20.out).mono ?_
      rintro e w21 ⟨rfl, hw21⟩
      subst hw21
      go_wp2
      go_ret
      exact ⟨rfl, T20⟩
end Go.Proofs.Ytnjplfofcjonhaa
