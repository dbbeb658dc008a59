/- What impl.MarkGray makes. -/
import Derived.Test.YtjhceoejblmihaaITried
namespace Go.Proofs.Ytjhceoejblmihaa
open Go.RowKit
set_option linter.unusedVariables false
set_option maxRecDepth 100000

/-- What painted answers. -/
def paintT (d c : Int) (H : HeapD) (T : TrialD) (k : Nat) : TrialD := if col T k = c then T else spreadAll d c H ⟨T.counts, T.colors.set k c⟩ [(k : Int)]
theorem paintT_eight (d c : Int) (H : HeapD) (T : TrialD) (k : Nat) (h8 : Eight T) (hk : k < 8) : Eight (paintT d c H T k) := by
  unfold paintT
  split
  · exact h8
  · exact spreadAll_eight d c H _ _ ⟨h8.1, by simpa using h8.2⟩ (fun z hz => by rw [List.mem_singleton.1 hz]; omega)
theorem painted_top (v : Value) (H : HeapD) (c d : Int) (hs : SmallH H) (h8 : H.objs.length = 8) (hf : ∀ o ∈ H.objs, ∀ z ∈ o.field, in64 z) (T : TrialD) (k : Nat) (w : World) (hT : Eight T) (hk : k < 8) (h : RdH w v H) :
    Calls Try.prog 99 #[arrV T, v, .int .i64 (k : Int), .int .i64 c, .int .i64 d] w fun e w' => e = .returned (arrV (paintT d c H T k)) ∧ Below w.heap.size w w' := by
  unfold paintT
  by_cases hc : col T k = c
  · rw [if_pos hc]
    exact painted_same v H c d T k w hT hk hc h
  · rw [if_neg hc]
    refine (painted_calls v H c d hs h8 hf T (Rch c H T k) (rch_runs c H T k) _ T [] [] k w (Nat.le_refl _) (deep_start _ hT) hk (fun _ R h1 _ => h1) h).mono ?_
    rintro e w' ⟨T', rfl, hp, hb⟩
    rw [painted_all hT hk hc hp]
    exact ⟨rfl, hb⟩

set_option maxHeartbeats 4000000 in
theorem markGray_calls (v : Value) (H : HeapD) (hs : SmallH H) (h8 : H.objs.length = 8) (hf : ∀ o ∈ H.objs, ∀ z ∈ o.field, in64 z) (T : TrialD) (k : Nat) (w : World) (hT : Eight T) (hk : k < 8) (h : RdH w v H) :
    Calls Try.prog 61 #[arrV T, v, .int .i64 (k : Int)] w fun e w' => e = .returned (arrV (paintT (-1) 1 H T k)) ∧ Below w.heap.size w w' := by
  have CP : Hid (∀ X, Below w.heap.size w X → _) := fun X hX => painted_top v H 1 (-1) hs h8 hf T k X hT hk (rdH_later h hX)
  have hR := paintT_eight (-1) 1 H T k hT hk
  generalize paintT (-1) 1 H T k = R at *
  obtain ⟨ao, co, aw, cw, ab, cb, sa, sc, rfl, -, -, -, -⟩ := h
  obtain ⟨a0, a1, a2, a3, a4, a5, a6, a7, b0, b1, b2, b3, b4, b5, b6, b7, rfl⟩ := eight_trD hT
  obtain ⟨r0, r1, r2, r3, r4, r5, r6, r7, r8, r9, r10, r11, r12, r13, r14, r15, rfl⟩ := eight_trD hR
  rw [trD_v, trD_v] at CP
  rw [trD_v, trD_v]
  obtain ⟨W, hW⟩ : ∃ W, W = ((w.alloc (.cells #[.int .i64 a0, .int .i64 a1, .int .i64 a2, .int .i64 a3, .int .i64 a4, .int .i64 a5, .int .i64 a6, .int .i64 a7, .int .i64 b0, .int .i64 b1, .int .i64 b2, .int .i64 b3, .int .i64 b4, .int .i64 b5, .int .i64 b6, .int .i64 b7] 83)).alloc (.cells #[.slice ao H.objs.length co, .slice aw H.weaks.length cw, .slice ab H.buffer.length cb, .slice sa H.sites.length sc] 35)).alloc (.cells #[.int .i64 0, .int .i64 0, .int .i64 0, .int .i64 0, .int .i64 0, .int .i64 0, .int .i64 0, .int .i64 0, .int .i64 0, .int .i64 0, .int .i64 0, .int .i64 0, .int .i64 0, .int .i64 0, .int .i64 0, .int .i64 0] 83) := ⟨_, rfl⟩
  have BW : Below w.heap.size w W := by rw [hW]; exact (((Below.refl _ _).alloc (Nat.le_refl _) _).alloc (by simp) _).alloc (by simp; omega) _
  have sW : W.heap.size = w.heap.size + 3 := by rw [hW]; simp
  have Z0 : Arr W (w.heap.size + 2) (trD 0 0 0 0 0 0 0 0 0 0 0 0 0 0 0 0) := by
    have f := Arr.new ((w.alloc (.cells #[.int .i64 a0, .int .i64 a1, .int .i64 a2, .int .i64 a3, .int .i64 a4, .int .i64 a5, .int .i64 a6, .int .i64 a7, .int .i64 b0, .int .i64 b1, .int .i64 b2, .int .i64 b3, .int .i64 b4, .int .i64 b5, .int .i64 b6, .int .i64 b7] 83)).alloc (.cells #[.slice ao H.objs.length co, .slice aw H.weaks.length cw, .slice ab H.buffer.length cb, .slice sa H.sites.length sc] 35)) (trD 0 0 0 0 0 0 0 0 0 0 0 0 0 0 0 0)
    have f2 : Arr W ((w.alloc (.cells #[.int .i64 a0, .int .i64 a1, .int .i64 a2, .int .i64 a3, .int .i64 a4, .int .i64 a5, .int .i64 a6, .int .i64 a7, .int .i64 b0, .int .i64 b1, .int .i64 b2, .int .i64 b3, .int .i64 b4, .int .i64 b5, .int .i64 b6, .int .i64 b7] 83)).alloc (.cells #[.slice ao H.objs.length co, .slice aw H.weaks.length cw, .slice ab H.buffer.length cb, .slice sa H.sites.length sc] 35)).heap.size (trD 0 0 0 0 0 0 0 0 0 0 0 0 0 0 0 0) := by rw [hW]; exact f
    simpa using f2
  have HZ : Hid (∀ X, Below W.heap.size W X → Arr X (w.heap.size + 2) (trD 0 0 0 0 0 0 0 0 0 0 0 0 0 0 0 0)) := fun X hX => Z0.later hX
  have HZ8 : Hid (Eight (trD 0 0 0 0 0 0 0 0 0 0 0 0 0 0 0 0)) := ⟨rfl, rfl⟩
  have HBW : Hid (∀ X, Below W.heap.size W X → Below w.heap.size w X) := fun X hX => BW.trans (hX.mono BW.size)
  clear hT hR Z0 sW h8 hf hs
  go_enter Try.func61, Try.ntmps61
  go_wp2_with fail
  rw [← hW]
  clear hW
  refine (CP.out _ BW).mono ?_
  rintro e w1 ⟨rfl, b1⟩
  have HA : Hid _ := HZ.out _ b1
  obtain ⟨f0_, f1_, f2_, f3_, f4_, f5_, f6_, f7_, f8_, f9_, f10_, f11_, f12_, f13_, f14_, f15_⟩ := (set16_arr HA.out HZ8.out r0 r1 r2 r3 r4 r5 r6 r7 r8 r9 r10 r11 r12 r13 r14 r15).all
  have HB : Hid (Below w.heap.size w (set16 w1 (w.heap.size + 2) r0 r1 r2 r3 r4 r5 r6 r7 r8 r9 r10 r11 r12 r13 r14 r15)) := set16_below r0 r1 r2 r3 r4 r5 r6 r7 r8 r9 r10 r11 r12 r13 r14 r15 (HBW.out _ b1) (by omega)
  clear BW b1 CP HZ HBW
  go_wp2_with (refine wpList_store16 rfl rfl HA.out HZ8.out ?_)
  exact bodyPost_ret (v := .agg #[.int .i64 r0, .int .i64 r1, .int .i64 r2, .int .i64 r3, .int .i64 r4, .int .i64 r5, .int .i64 r6, .int .i64 r7, .int .i64 r8, .int .i64 r9, .int .i64 r10, .int .i64 r11, .int .i64 r12, .int .i64 r13, .int .i64 r14, .int .i64 r15]) (by simp [results, Try.results61, go_sem, *]) rfl ⟨rfl, HB.out⟩

/-- What MarkGray and ScanFrom answer, of what is tried. -/
theorem iGray_calls (v u : Value) (H : HeapD) (T : TrialD) (slot : Int) (w : World) (h : RdH w v H) (ht : RdT w u T) (hs : SmallH H) (hst : SmallT T) (hf : ∀ o ∈ H.objs, ∀ z ∈ o.field, in64 z) (R : TrialD) (hy : OkT H T slot → R = paintT (-1) 1 H T slot.toNat) (hn : ¬ OkT H T slot → R = T) :
    Calls Try.prog 26 #[v, u, .int .i64 slot] w fun e w' => ∃ s : TSh, e = .returned s.v ∧ TM w' w.heap.size s R ∧ Below w.heap.size w w' := by
  have C : ∀ X, Below w.heap.size w X → Calls Try.prog 60 #[v, u, .int .i64 slot, .func (.func 61) #[] #[]] X fun e w' => ∃ s : TSh, e = .returned s.v ∧ TM w' X.heap.size s R ∧ Below X.heap.size X w' := fun X hX => by
    by_cases hok : OkT H T slot
    · rw [hy hok]
      obtain ⟨k, rfl⟩ : ∃ k : Nat, slot = (k : Int) := ⟨slot.toNat, by have := hok.lo; omega⟩
      have hk : k < 8 := by have := hok.hi; omega
      have hT : Eight T := ⟨hok.counts, hok.colors⟩
      rw [show ((k : Int)).toNat = k from by omega]
      exact iTried_yes v u _ tryGray H T _ k X (rdH_later h hX) (rdT_later ht hX) hs hst hok (paintT_eight (-1) 1 H T k hT hk) (fun Y hY => markGray_calls v H hs hok.objs hf T k Y hT hk (rdH_later (rdH_later h hX) hY))
    · rw [hn hok]
      exact iTried_no v u _ H T slot X (rdH_later h hX) (rdT_later ht hX) hs hst hok
  have CT : Hid (∀ X, Below w.heap.size w X → _) := C
  clear C hy hn
  obtain ⟨ao, co, aw, cw, ab, cb, sa, sc, rfl, -, -, -, -⟩ := h
  obtain ⟨xa, xc, ya, yc, rfl, -, -⟩ := ht
  obtain ⟨W, hW⟩ : ∃ W, W = ((w.alloc (.cells #[.slice ao H.objs.length co, .slice aw H.weaks.length cw, .slice ab H.buffer.length cb, .slice sa H.sites.length sc] 35)).alloc (.cells #[.slice xa T.counts.length xc, .slice ya T.colors.length yc] 30)).alloc (.cells #[.slice none 0 0, .slice none 0 0] 30) := ⟨_, rfl⟩
  have BW : Below w.heap.size w W := by rw [hW]; exact (((Below.refl _ _).alloc (Nat.le_refl _) _).alloc (by simp) _).alloc (by simp; omega) _
  have hWs : W.heap.size = w.heap.size + 3 := by rw [hW]; simp
  have FR : Two W (w.heap.size + 2) (.slice none 0 0) (.slice none 0 0) := by
    have f := Two.new ((w.alloc (.cells #[.slice ao H.objs.length co, .slice aw H.weaks.length cw, .slice ab H.buffer.length cb, .slice sa H.sites.length sc] 35)).alloc (.cells #[.slice xa T.counts.length xc, .slice ya T.colors.length yc] 30)) (.slice none 0 0) (.slice none 0 0)
    rw [← hW] at f
    simpa using f
  have HFR : Hid (∀ X, Below W.heap.size W X → Two X (w.heap.size + 2) (.slice none 0 0) (.slice none 0 0)) := fun X hX => FR.later hX (by omega)
  have HBW : Hid (∀ X, Below W.heap.size W X → Below w.heap.size w X) := fun X hX => BW.trans (hX.mono BW.size)
  have HWs : Hid (W.heap.size = w.heap.size + 3) := hWs
  clear FR hWs hs hst hf
  go_enter Try.func26, Try.ntmps26
  go_wp2_with fail
  rw [← hW]
  clear hW
  refine (CT.out _ BW).mono ?_
  rintro e w1 ⟨s, rfl, M1, b1⟩
  have F1 := HFR.out _ b1
  have c0 : w1.cell? ⟨w.heap.size + 2, 0, none⟩ = some (.slice none 0 0) := F1.cell 0
  have c1 : w1.cell? ⟨w.heap.size + 2, 1, none⟩ = some (.slice none 0 0) := F1.cell 1
  have f0 := F1.frozen 0
  have f1 := F1.frozen 1
  obtain ⟨k0, k1⟩ := setTwo_cell (.slice s.a s.n s.c) (.slice s.b s.m s.d) F1
  have HT : Hid (TM (setTwo w1 (w.heap.size + 2) (.slice s.a s.n s.c) (.slice s.b s.m s.d)) w.heap.size s R) := by
    have hle : w.heap.size ≤ W.heap.size := by have := HWs.out; omega
    exact (M1.same (fun g hg _ => setTwo_other _ _ _ _ g (by have := HWs.out; omega))).mono hle
  have HB : Hid (Below w.heap.size w (setTwo w1 (w.heap.size + 2) (.slice s.a s.n s.c) (.slice s.b s.m s.d))) := by
    unfold setTwo
    exact ((HBW.out _ b1).setCell (by simp) _).setCell (by simp) _
  unfold setTwo at HT HB k0 k1
  clear F1 M1 BW b1 CT
  have hv : s.v = .agg #[.slice s.a s.n s.c, .slice s.b s.m s.d] := rfl
  rw [hv]
  go_wp2
  exact bodyPost_ret (v := .agg #[.slice s.a s.n s.c, .slice s.b s.m s.d]) (by simp [results, Try.results26, go_sem, *]) rfl ⟨s, rfl, HT.out, HB.out⟩

end Go.Proofs.Ytjhceoejblmihaa
