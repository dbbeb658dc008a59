/- What spec.MarkGray makes where there is nothing to turn: a copy. -/
import Derived.Test.YtjhceoejblmihaaRingState
import Derived.Test.YtjhceoejblmihaaTrialOk
namespace Go.Proofs.Ytjhceoejblmihaa
open Go.RowKit
set_option linter.unusedVariables false
set_option maxRecDepth 100000

set_option maxHeartbeats 4000000 in
theorem sGray_no (v u : Value) (H : HeapD) (T : TrialD) (slot : Int) (w : World) (h : RdH w v H) (ht : RdT w u T) (hs : SmallH H) (hst : SmallT T) (hno : ¬ OkT H T slot ∨ T.colors.getD slot.toNat 0 = 1) :
    Calls Try.prog 25 #[v, u, .int .i64 slot] w fun e w' => ∃ s : TSh, e = .returned s.v ∧ TM w' w.heap.size s T ∧ Below w.heap.size w w' := by
  have HRH : Hid (∀ X, Below w.heap.size w X → RdH X v H) := fun X hX => rdH_later h hX
  have HRT : Hid (∀ X, Below w.heap.size w X → RdT X u T) := fun X hX => rdT_later ht hX
  obtain ⟨ao, co, aw, cw, ab, cb, sa, sc, rfl, -⟩ := h
  obtain ⟨xa, xc, ya, yc, rfl, -, ri⟩ := ht
  obtain ⟨W, hW⟩ : ∃ W, W = ((w.alloc (.cells #[.slice ao H.objs.length co, .slice aw H.weaks.length cw, .slice ab H.buffer.length cb, .slice sa H.sites.length sc] 35)).alloc (.cells #[.slice xa T.counts.length xc, .slice ya T.colors.length yc] 30)).alloc (.cells #[.slice none 0 0, .slice none 0 0] 30) := ⟨_, rfl⟩
  have BW : Below w.heap.size w W := by rw [hW]; exact (((Below.refl _ _).alloc (Nat.le_refl _) _).alloc (by simp) _).alloc (by simp; omega) _
  have hWs : W.heap.size = w.heap.size + 3 := by rw [hW]; simp
  have q0 : Four W w.heap.size (.slice ao H.objs.length co) (.slice aw H.weaks.length cw) (.slice ab H.buffer.length cb) (.slice sa H.sites.length sc) := by
    have f1 := Four.new w (.slice ao H.objs.length co) (.slice aw H.weaks.length cw) (.slice ab H.buffer.length cb) (.slice sa H.sites.length sc)
    exact Eq.trans (by rw [hW, Below.heap_alloc _ _ _ (by simp; omega), Below.heap_alloc _ _ _ (by simp)]) f1
  have q1 : Two W (w.heap.size + 1) (.slice xa T.counts.length xc) (.slice ya T.colors.length yc) := by
    have f1 := Two.new (w.alloc (.cells #[.slice ao H.objs.length co, .slice aw H.weaks.length cw, .slice ab H.buffer.length cb, .slice sa H.sites.length sc] 35)) (.slice xa T.counts.length xc) (.slice ya T.colors.length yc)
    rw [show (w.alloc (.cells #[.slice ao H.objs.length co, .slice aw H.weaks.length cw, .slice ab H.buffer.length cb, .slice sa H.sites.length sc] 35)).heap.size = w.heap.size + 1 from by simp] at f1
    exact Eq.trans (by rw [hW, Below.heap_alloc _ _ _ (by simp)]) f1
  have q2 : Two W (w.heap.size + 2) (.slice none 0 0) (.slice none 0 0) := by
    have f1 := Two.new ((w.alloc (.cells #[.slice ao H.objs.length co, .slice aw H.weaks.length cw, .slice ab H.buffer.length cb, .slice sa H.sites.length sc] 35)).alloc (.cells #[.slice xa T.counts.length xc, .slice ya T.colors.length yc] 30)) (.slice none 0 0) (.slice none 0 0)
    rw [show ((w.alloc (.cells #[.slice ao H.objs.length co, .slice aw H.weaks.length cw, .slice ab H.buffer.length cb, .slice sa H.sites.length sc] 35)).alloc (.cells #[.slice xa T.counts.length xc, .slice ya T.colors.length yc] 30)).heap.size = w.heap.size + 2 from by simp] at f1
    rw [hW]
    exact f1
  have HQ : Hid (∀ X, Below W.heap.size W X → Four X w.heap.size (.slice ao H.objs.length co) (.slice aw H.weaks.length cw) (.slice ab H.buffer.length cb) (.slice sa H.sites.length sc) ∧ Two X (w.heap.size + 1) (.slice xa T.counts.length xc) (.slice ya T.colors.length yc) ∧ Two X (w.heap.size + 2) (.slice none 0 0) (.slice none 0 0)) :=
    fun X hX => ⟨q0.same (hX.block _ (by omega)), q1.same (hX.block _ (by omega)), q2.same (hX.block _ (by omega))⟩
  have HBW : Hid (Below w.heap.size w W) := BW
  have HWs : Hid (W.heap.size = w.heap.size + 3) := hWs
  have CC : Hid (∀ _ : Unit, _) := fun (_ : Unit) => sCopyT_calls _ T W (HRT.out W BW) hst
  obtain ⟨b, hb⟩ : ∃ b : Bool, b = true ↔ OkT H T slot := by
    by_cases h : OkT H T slot
    · exact ⟨true, by simp [h]⟩
    · exact ⟨false, by simp [h]⟩
  have CO : Hid (∀ X, Below w.heap.size w X → _) := fun X hX => sOkT_calls _ _ H T slot X (HRH.out X hX) (HRT.out X hX) hs hst b hb
  have HRI : Hid (∀ X, Below w.heap.size w X → RdI X ya T.colors) := fun X hX => rdI_later ri hX
  have HBO : Hid (b = true ↔ OkT H T slot) := hb
  have HNO : Hid (¬ OkT H T slot ∨ T.colors.getD slot.toNat 0 = 1) := hno
  have hlc := hst.colors
  clear q0 q1 q2 BW hWs HRH HRT hs hst hno ri hb
  go_enter Try.func25, Try.ntmps25
  go_wp2_with fail
  rw [← hW]
  clear hW
  refine (CC.out ()).mono ?_
  rintro e w1 ⟨s, rfl, M1, b1⟩
  obtain ⟨V, hV⟩ : ∃ V, V = w1.alloc (.cells #[.slice s.a s.n s.c, .slice s.b s.m s.d] 30) := ⟨_, rfl⟩
  have BV : Below w1.heap.size w1 V := by rw [hV]; exact (Below.refl _ _).alloc (Nat.le_refl _) _
  have HTV : Hid (TM V W.heap.size s T) := M1.later BV
  have HXV : Hid (Two V w1.heap.size (.slice s.a s.n s.c) (.slice s.b s.m s.d)) := by rw [hV]; exact Two.new w1 _ _
  have HBV : Hid (Below W.heap.size W V) := b1.trans (BV.mono b1.size)
  have HW1 : Hid (W.heap.size ≤ w1.heap.size) := b1.size
  have HVV : Hid (Below w.heap.size w V) := HBW.out.trans (HBV.out.mono HBW.out.size)
  obtain ⟨F1, X1, X2⟩ := HQ.out w1 b1
  have f0 : w1.cell? ⟨w.heap.size, 0, none⟩ = some (.slice ao H.objs.length co) := F1.cell 0
  have f1 : w1.cell? ⟨w.heap.size, 1, none⟩ = some (.slice aw H.weaks.length cw) := F1.cell 1
  have f2 : w1.cell? ⟨w.heap.size, 2, none⟩ = some (.slice ab H.buffer.length cb) := F1.cell 2
  have f3 : w1.cell? ⟨w.heap.size, 3, none⟩ = some (.slice sa H.sites.length sc) := F1.cell 3
  have t0 : w1.cell? ⟨w.heap.size + 1, 0, none⟩ = some (.slice xa T.counts.length xc) := X1.cell 0
  have t1 : w1.cell? ⟨w.heap.size + 1, 1, none⟩ = some (.slice ya T.colors.length yc) := X1.cell 1
  have g0 : w.heap.size < w1.heap.size := F1.lt
  have g1 : w.heap.size + 1 < w1.heap.size := X1.lt
  have n0 : ¬ w.heap.size = w1.heap.size := by omega
  have n1 : ¬ w.heap.size + 1 = w1.heap.size := by omega
  have HC2 : Hid (Calls _ _ _ V _) := CO.out V HVV.out
  rw [show s.v = .agg #[.slice s.a s.n s.c, .slice s.b s.m s.d] from rfl]
  clear CC CO M1 b1 BV F1 X1 X2
  go_wp2_with fail
  rw [← hV]
  clear hV
  refine HC2.out.mono ?_
  rintro e w2 ⟨rfl, b2⟩
  have HB2 : Hid (Below W.heap.size W w2) := HBV.out.trans (b2.mono HBV.out.size)
  have HT2 : Hid (TM w2 W.heap.size s T) := HTV.out.later b2
  have X2 : Two w2 w1.heap.size (.slice s.a s.n s.c) (.slice s.b s.m s.d) := HXV.out.later b2 HXV.out.lt
  obtain ⟨-, T1, R1⟩ := HQ.out w2 HB2.out
  have x0 : w2.cell? ⟨w1.heap.size, 0, none⟩ = some (.slice s.a s.n s.c) := X2.cell 0
  have x1 : w2.cell? ⟨w1.heap.size, 1, none⟩ = some (.slice s.b s.m s.d) := X2.cell 1
  have u1 : w2.cell? ⟨w.heap.size + 1, 1, none⟩ = some (.slice ya T.colors.length yc) := T1.cell 1
  have r0 : w2.cell? ⟨w.heap.size + 2, 0, none⟩ = some (.slice none 0 0) := R1.cell 0
  have r1 : w2.cell? ⟨w.heap.size + 2, 1, none⟩ = some (.slice none 0 0) := R1.cell 1
  have z0 := R1.frozen 0
  have z1 := R1.frozen 1
  have HFIN : Hid (TM (setTwo w2 (w.heap.size + 2) (.slice s.a s.n s.c) (.slice s.b s.m s.d)) w.heap.size s T ∧ Below w.heap.size w (setTwo w2 (w.heap.size + 2) (.slice s.a s.n s.c) (.slice s.b s.m s.d))) := by
    have e3 := HWs.out
    refine ⟨(HT2.out.same (fun g h1 h2 => setTwo_other _ _ _ _ g (by omega))).mono (by omega), ?_⟩
    unfold setTwo
    exact ((HBW.out.trans (HB2.out.mono (by omega))).setCell (by simp) _).setCell (by simp) _
  clear f0 f1 f2 f3 t0 t1 g0 g1 n0 n1 T1 R1 X2 b2
  cases b with
  | false =>
    go_wp2
    exact bodyPost_ret (v := .agg #[.slice s.a s.n s.c, .slice s.b s.m s.d]) (by simp [results, Try.results25, go_sem, *]) rfl ⟨s, rfl, HFIN.out⟩
  | true =>
    have ok := HBO.out.1 rfl
    have hlo := ok.lo
    have hhi := ok.hi
    have h8 := ok.colors
    obtain ⟨k, rfl⟩ : ∃ k : Nat, slot = (k : Int) := ⟨slot.toNat, by omega⟩
    have hk : k < T.colors.length := by omega
    have hg : T.colors[k] = 1 := by
      rcases HNO.out with h | h
      · exact absurd ok h
      · rw [show ((k : Int)).toNat = k from by omega, List.getD_eq_getElem?_getD, List.getElem?_eq_getElem hk, Option.getD_some] at h
        exact h
    obtain ⟨g, off, rfl, -, hc⟩ := HRI.out w2 (HBW.out.trans (HB2.out.mono HBW.out.size)) k hk
    rw [hg] at hc
    clear hg ok h8 hlo hhi
    go_wp2
    exact bodyPost_ret (v := .agg #[.slice s.a s.n s.c, .slice s.b s.m s.d]) (by simp [results, Try.results25, go_sem, *]) rfl ⟨s, rfl, HFIN.out⟩

end Go.Proofs.Ytjhceoejblmihaa
