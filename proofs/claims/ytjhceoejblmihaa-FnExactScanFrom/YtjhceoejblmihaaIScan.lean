/- What impl.ScanFrom makes: a trial in arrays, scanned by calls. -/
import Derived.Test.YtjhceoejblmihaaScanFin
import Derived.Test.YtjhceoejblmihaaIGray
namespace Go.Proofs.Ytjhceoejblmihaa
open Go.RowKit
set_option linter.unusedVariables false
set_option maxRecDepth 100000

set_option maxHeartbeats 4000000 in
theorem scanFrom_same (v : Value) (H : HeapD) (T : TrialD) (k : Nat) (w : World) (h8 : Eight T) (hk : k < 8) (hc : col T k ≠ 1) (h : RdH w v H) :
    Calls Try.prog 63 #[arrV T, v, .int .i64 (k : Int)] w fun e w' => e = .returned (arrV T) ∧ Below w.heap.size w w' := by
  obtain ⟨ao, co, aw, cw, ab, cb, sa, sc, rfl, -, -, -, -⟩ := h
  obtain ⟨a0, a1, a2, a3, a4, a5, a6, a7, b0, b1, b2, b3, b4, b5, b6, b7, rfl⟩ := eight_trD h8
  obtain ⟨W, hW⟩ : ∃ W, W = ((w.alloc (.cells #[.int .i64 a0, .int .i64 a1, .int .i64 a2, .int .i64 a3, .int .i64 a4, .int .i64 a5, .int .i64 a6, .int .i64 a7, .int .i64 b0, .int .i64 b1, .int .i64 b2, .int .i64 b3, .int .i64 b4, .int .i64 b5, .int .i64 b6, .int .i64 b7] 83)).alloc (.cells #[.slice ao H.objs.length co, .slice aw H.weaks.length cw, .slice ab H.buffer.length cb, .slice sa H.sites.length sc] 35)).alloc (.cells #[.int .i64 0, .int .i64 0, .int .i64 0, .int .i64 0, .int .i64 0, .int .i64 0, .int .i64 0, .int .i64 0, .int .i64 0, .int .i64 0, .int .i64 0, .int .i64 0, .int .i64 0, .int .i64 0, .int .i64 0, .int .i64 0] 83) := ⟨_, rfl⟩
  have A0 : Arr W w.heap.size (trD a0 a1 a2 a3 a4 a5 a6 a7 b0 b1 b2 b3 b4 b5 b6 b7) := by
    have f := Arr.new w (trD a0 a1 a2 a3 a4 a5 a6 a7 b0 b1 b2 b3 b4 b5 b6 b7)
    have f2 := f.later ((Below.refl _ _).alloc (Nat.le_refl _) (.cells #[.slice ao H.objs.length co, .slice aw H.weaks.length cw, .slice ab H.buffer.length cb, .slice sa H.sites.length sc] 35))
    have f3 := f2.later ((Below.refl _ _).alloc (Nat.le_refl _) (.cells #[.int .i64 0, .int .i64 0, .int .i64 0, .int .i64 0, .int .i64 0, .int .i64 0, .int .i64 0, .int .i64 0, .int .i64 0, .int .i64 0, .int .i64 0, .int .i64 0, .int .i64 0, .int .i64 0, .int .i64 0, .int .i64 0] 83))
    rw [hW]; exact f3
  have ck := A0.color h8 k hk
  generalize col (trD a0 a1 a2 a3 a4 a5 a6 a7 b0 b1 b2 b3 b4 b5 b6 b7) k = q at *
  rw [hW] at ck
  have hk8 : (k : Int) < 8 := by omega
  have hcn : ¬ q = 1 := hc
  clear A0 hc hW
  rw [trD_v]
  go_enter Try.func63, Try.ntmps63
  go_wp2
  refine bodyPost_ret (v := .agg #[.int .i64 a0, .int .i64 a1, .int .i64 a2, .int .i64 a3, .int .i64 a4, .int .i64 a5, .int .i64 a6, .int .i64 a7, .int .i64 b0, .int .i64 b1, .int .i64 b2, .int .i64 b3, .int .i64 b4, .int .i64 b5, .int .i64 b6, .int .i64 b7]) (by simp [results, Try.results63, go_sem, *]) rfl ⟨rfl, ?_⟩
  exact (((Below.refl _ _).alloc (Nat.le_refl _) _).alloc (by simp) _).alloc (by simp; omega) _

set_option maxHeartbeats 4000000 in
theorem scanFrom_black (v : Value) (H : HeapD) (hs : SmallH H) (h8 : H.objs.length = 8) (hf : ∀ o ∈ H.objs, ∀ z ∈ o.field, in64 z) (T : TrialD) (k : Nat) (w : World) (hT : Eight T) (hk : k < 8) (hc : col T k = 1) (hp : 0 < cnt T k) (h : RdH w v H) :
    Calls Try.prog 63 #[arrV T, v, .int .i64 (k : Int)] w fun e w' => e = .returned (arrV (spreadAll 1 0 H ⟨T.counts, T.colors.set k 0⟩ [(k : Int)])) ∧ Below w.heap.size w w' := by
  have CP0 : ∀ X, Below w.heap.size w X → _ := fun X hX => painted_top v H 0 1 hs h8 hf T k X hT hk (rdH_later h hX)
  have hR := paintT_eight 1 0 H T k hT hk
  have e : paintT 1 0 H T k = spreadAll 1 0 H ⟨T.counts, T.colors.set k 0⟩ [(k : Int)] := by unfold paintT; rw [if_neg (by omega)]
  rw [e] at CP0 hR
  have CP : Hid (∀ X, Below w.heap.size w X → _) := CP0
  clear CP0 e
  generalize spreadAll 1 0 H ⟨T.counts, T.colors.set k 0⟩ [(k : Int)] = R at *
  obtain ⟨ao, co, aw, cw, ab, cb, sa, sc, rfl, -, -, -, -⟩ := h
  obtain ⟨a0, a1, a2, a3, a4, a5, a6, a7, b0, b1, b2, b3, b4, b5, b6, b7, rfl⟩ := eight_trD hT
  obtain ⟨r0, r1, r2, r3, r4, r5, r6, r7, r8, r9, r10, r11, r12, r13, r14, r15, rfl⟩ := eight_trD hR
  obtain ⟨W, hW⟩ : ∃ W, W = ((w.alloc (.cells #[.int .i64 a0, .int .i64 a1, .int .i64 a2, .int .i64 a3, .int .i64 a4, .int .i64 a5, .int .i64 a6, .int .i64 a7, .int .i64 b0, .int .i64 b1, .int .i64 b2, .int .i64 b3, .int .i64 b4, .int .i64 b5, .int .i64 b6, .int .i64 b7] 83)).alloc (.cells #[.slice ao H.objs.length co, .slice aw H.weaks.length cw, .slice ab H.buffer.length cb, .slice sa H.sites.length sc] 35)).alloc (.cells #[.int .i64 0, .int .i64 0, .int .i64 0, .int .i64 0, .int .i64 0, .int .i64 0, .int .i64 0, .int .i64 0, .int .i64 0, .int .i64 0, .int .i64 0, .int .i64 0, .int .i64 0, .int .i64 0, .int .i64 0, .int .i64 0] 83) := ⟨_, rfl⟩
  have BW : Below w.heap.size w W := by rw [hW]; exact (((Below.refl _ _).alloc (Nat.le_refl _) _).alloc (by simp) _).alloc (by simp; omega) _
  have A0 : Arr W w.heap.size (trD a0 a1 a2 a3 a4 a5 a6 a7 b0 b1 b2 b3 b4 b5 b6 b7) := by
    have f := Arr.new w (trD a0 a1 a2 a3 a4 a5 a6 a7 b0 b1 b2 b3 b4 b5 b6 b7)
    have f2 := f.later ((Below.refl _ _).alloc (Nat.le_refl _) (.cells #[.slice ao H.objs.length co, .slice aw H.weaks.length cw, .slice ab H.buffer.length cb, .slice sa H.sites.length sc] 35))
    have f3 := f2.later ((Below.refl _ _).alloc (Nat.le_refl _) (.cells #[.int .i64 0, .int .i64 0, .int .i64 0, .int .i64 0, .int .i64 0, .int .i64 0, .int .i64 0, .int .i64 0, .int .i64 0, .int .i64 0, .int .i64 0, .int .i64 0, .int .i64 0, .int .i64 0, .int .i64 0, .int .i64 0] 83))
    rw [hW]; exact f3
  have Z0 : Arr W (w.heap.size + 2) (trD 0 0 0 0 0 0 0 0 0 0 0 0 0 0 0 0) := by
    have f := Arr.new ((w.alloc (.cells #[.int .i64 a0, .int .i64 a1, .int .i64 a2, .int .i64 a3, .int .i64 a4, .int .i64 a5, .int .i64 a6, .int .i64 a7, .int .i64 b0, .int .i64 b1, .int .i64 b2, .int .i64 b3, .int .i64 b4, .int .i64 b5, .int .i64 b6, .int .i64 b7] 83)).alloc (.cells #[.slice ao H.objs.length co, .slice aw H.weaks.length cw, .slice ab H.buffer.length cb, .slice sa H.sites.length sc] 35)) (trD 0 0 0 0 0 0 0 0 0 0 0 0 0 0 0 0)
    have f2 : Arr W ((w.alloc (.cells #[.int .i64 a0, .int .i64 a1, .int .i64 a2, .int .i64 a3, .int .i64 a4, .int .i64 a5, .int .i64 a6, .int .i64 a7, .int .i64 b0, .int .i64 b1, .int .i64 b2, .int .i64 b3, .int .i64 b4, .int .i64 b5, .int .i64 b6, .int .i64 b7] 83)).alloc (.cells #[.slice ao H.objs.length co, .slice aw H.weaks.length cw, .slice ab H.buffer.length cb, .slice sa H.sites.length sc] 35)).heap.size (trD 0 0 0 0 0 0 0 0 0 0 0 0 0 0 0 0) := by rw [hW]; exact f
    simpa using f2
  have ck := A0.color hT k hk
  have cc := A0.count hT k hk
  rw [hc] at ck
  generalize cnt (trD a0 a1 a2 a3 a4 a5 a6 a7 b0 b1 b2 b3 b4 b5 b6 b7) k = q at *
  rw [hW] at ck cc
  rw [trD_v, trD_v] at CP
  rw [trD_v, trD_v]
  have HZ : Hid (∀ X, Below W.heap.size W X → Arr X (w.heap.size + 2) (trD 0 0 0 0 0 0 0 0 0 0 0 0 0 0 0 0)) := fun X hX => Z0.later hX
  have HZ8 : Hid (Eight (trD 0 0 0 0 0 0 0 0 0 0 0 0 0 0 0 0)) := ⟨rfl, rfl⟩
  have HBW : Hid (∀ X, Below W.heap.size W X → Below w.heap.size w X) := fun X hX => BW.trans (hX.mono BW.size)
  have hk8 : (k : Int) < 8 := by omega
  clear hT hR Z0 A0 h8 hf hs hc
  go_enter Try.func63, Try.ntmps63
  go_wp2_with fail
  rw [← hW]
  clear hW ck cc
  refine (CP.out _ BW).mono ?_
  rintro e w1 ⟨rfl, b1⟩
  have HA : Hid _ := HZ.out _ b1
  obtain ⟨f0_, f1_, f2_, f3_, f4_, f5_, f6_, f7_, f8_, f9_, f10_, f11_, f12_, f13_, f14_, f15_⟩ := (set16_arr HA.out HZ8.out r0 r1 r2 r3 r4 r5 r6 r7 r8 r9 r10 r11 r12 r13 r14 r15).all
  have HB : Hid (Below w.heap.size w (set16 w1 (w.heap.size + 2) r0 r1 r2 r3 r4 r5 r6 r7 r8 r9 r10 r11 r12 r13 r14 r15)) := set16_below r0 r1 r2 r3 r4 r5 r6 r7 r8 r9 r10 r11 r12 r13 r14 r15 (HBW.out _ b1) (by omega)
  clear BW b1 CP HZ HBW
  go_wp2_with (refine wpList_store16 rfl rfl HA.out HZ8.out ?_)
  exact bodyPost_ret (v := .agg #[.int .i64 r0, .int .i64 r1, .int .i64 r2, .int .i64 r3, .int .i64 r4, .int .i64 r5, .int .i64 r6, .int .i64 r7, .int .i64 r8, .int .i64 r9, .int .i64 r10, .int .i64 r11, .int .i64 r12, .int .i64 r13, .int .i64 r14, .int .i64 r15]) (by simp [results, Try.results63, go_sem, *]) rfl ⟨rfl, HB.out⟩

theorem colored_le_of {T T' : TrialD} (h8 : Eight T) (h8' : Eight T') (h : ∀ j, j < 8 → col T' j = 1 → col T j = 1) : colored 1 T'.colors ≤ colored 1 T.colors := by
  obtain ⟨a0, a1, a2, a3, a4, a5, a6, a7, b0, b1, b2, b3, b4, b5, b6, b7, rfl⟩ := eight_form h8
  obtain ⟨x0, x1, x2, x3, x4, x5, x6, x7, y0, y1, y2, y3, y4, y5, y6, y7, rfl⟩ := eight_form h8'
  have e0 := h 0 (by omega)
  have e1 := h 1 (by omega)
  have e2 := h 2 (by omega)
  have e3 := h 3 (by omega)
  have e4 := h 4 (by omega)
  have e5 := h 5 (by omega)
  have e6 := h 6 (by omega)
  have e7 := h 7 (by omega)
  simp only [col, List.getD_cons_zero, List.getD_cons_succ] at e0 e1 e2 e3 e4 e5 e6 e7
  have one : ∀ x y : Int, (y = 1 → x = 1) → (if decide (y = 1) = true then 1 else 0) ≤ (if decide (x = 1) = true then 1 else 0) := fun x y hxy => by
    by_cases hy : y = 1
    · simp [hy, hxy hy]
    · simp [hy]
  have g0 := one _ _ e0
  have g1 := one _ _ e1
  have g2 := one _ _ e2
  have g3 := one _ _ e3
  have g4 := one _ _ e4
  have g5 := one _ _ e5
  have g6 := one _ _ e6
  have g7 := one _ _ e7
  simp only [colored, List.countP_cons, List.countP_nil]
  omega
theorem sc_colored {H : HeapD} {T0 T T' : TrialD} {A Q : Nat → Prop} {P S P' S' : List Nat} (h : Sc H T0 A Q T P S) (h' : Sc H T0 A Q T' P' S') (hP : ∀ x ∈ P, x ∈ P') (hS : ∀ x ∈ S, x ∈ S') : colored 1 T'.colors ≤ colored 1 T.colors :=
  colored_le_of h.e h'.e (fun j hj hg => by
    obtain ⟨q1, q2, q3, -⟩ := sc_gray h' hj hg
    rw [h.col j hj, if_neg (fun hm => q1 (hP j hm)), if_neg (fun hm => q2 (hS j hm))]
    exact q3)

set_option maxHeartbeats 16000000 in
theorem scanFrom_calls (v : Value) (H : HeapD) (hs : SmallH H) (h8 : H.objs.length = 8) (hf : ∀ o ∈ H.objs, ∀ z ∈ o.field, in64 z) (T0 : TrialD) (A Q : Nat → Prop) (hy : ScHyp H T0 A Q) :
    ∀ (n : Nat) (T : TrialD) (P S : List Nat) (k : Nat) (w : World), colored 1 T.colors ≤ n → Sc H T0 A Q T P S → k < 8 → (col T0 k = 1 → A k) → RdH w v H →
      Calls Try.prog 63 #[arrV T, v, .int .i64 (k : Int)] w fun e w' => ∃ T', e = .returned (arrV T') ∧ Scanned H T0 A Q P S k T' ∧ Below w.heap.size w w' := by
  intro n
  induction n with
  | zero =>
    intro T P S k w hn hd hk hAk h
    have hc : col T k ≠ 1 := fun hne => by
      have hl : k < T.colors.length := by have := hd.e.2; omega
      unfold col at hne
      rw [List.getD_eq_getElem?_getD, List.getElem?_eq_getElem hl, Option.getD_some] at hne
      have := colored_lt 1 2 T.colors k hl (by decide) hne
      omega
    refine (scanFrom_same v H T k w hd.e hk hc h).mono ?_
    rintro e w' ⟨rfl, hb⟩
    exact ⟨T, rfl, scanned_no hd hk hc, hb⟩
  | succ n ih =>
    intro T P S k w hn hd hk hAk h
    by_cases hc : col T k = 1
    case neg =>
      refine (scanFrom_same v H T k w hd.e hk hc h).mono ?_
      rintro e w' ⟨rfl, hb⟩
      exact ⟨T, rfl, scanned_no hd hk hc, hb⟩
    by_cases hp : 0 < cnt T k
    · refine (scanFrom_black v H hs h8 hf T k w hd.e hk hc hp h).mono ?_
      rintro e w' ⟨rfl, hb⟩
      exact ⟨_, rfl, scanned_black hy hd hk hc hp hAk, hb⟩
    have HR1 : Hid (∀ X, Below w.heap.size w X → RdH X v H) := fun X hX => rdH_later h hX
    have HST : Hid (ScMid H T0 A Q P S k 0 ⟨T.counts, T.colors.set k 2⟩) := scmid_start hd hk hc hp hAk
    have HO1 : Hid (colored 1 (TrialD.mk T.counts (T.colors.set k 2)).colors ≤ n) := by
      have hl : k < T.colors.length := by have := hd.e.2; omega
      have hne := hc
      unfold col at hne
      rw [List.getD_eq_getElem?_getD, List.getElem?_eq_getElem hl, Option.getD_some] at hne
      have := colored_lt 1 2 T.colors k hl (by decide) hne
      show colored 1 (T.colors.set k 2) ≤ n
      omega
    have hk2 : k < H.objs.length := by omega
    have CK : Hid (∀ X, Below w.heap.size w X → _) := fun X hX => iKids_calls v H k X (HR1.out X hX) hs hk2 (hf _ (List.getElem_mem hk2))
    rw [← kidsOf_at H k hk2] at CK
    have hkl := kidsOf_le H (k : Int) hs
    have HIH : Hid (∀ (T : TrialD) (P S : List Nat) (j : Nat) (w' : World), colored 1 T.colors ≤ n → Sc H T0 A Q T P S → j < 8 → (col T0 j = 1 → A j) → Below w.heap.size w w' → _) := fun T P S j w' h1 h2 h3 h4 h5 => ih T P S j w' h1 h2 h3 h4 (HR1.out w' h5)
    have e8 := hd.e
    obtain ⟨ao, co, aw, cw, ab, cb, sa, sc, rfl, -, -, -, -⟩ := h
    obtain ⟨a0, a1, a2, a3, a4, a5, a6, a7, b0, b1, b2, b3, b4, b5, b6, b7, rfl⟩ := eight_trD e8
    rw [h8] at CK HIH HR1 ⊢
    generalize H.weaks.length = nw at *
    generalize H.buffer.length = nb at *
    generalize H.sites.length = ns at *
    obtain ⟨W, hW⟩ : ∃ W, W = ((w.alloc (.cells #[.int .i64 a0, .int .i64 a1, .int .i64 a2, .int .i64 a3, .int .i64 a4, .int .i64 a5, .int .i64 a6, .int .i64 a7, .int .i64 b0, .int .i64 b1, .int .i64 b2, .int .i64 b3, .int .i64 b4, .int .i64 b5, .int .i64 b6, .int .i64 b7] 83)).alloc (.cells #[.slice ao 8 co, .slice aw nw cw, .slice ab nb cb, .slice sa ns sc] 35)).alloc (.cells #[.int .i64 0, .int .i64 0, .int .i64 0, .int .i64 0, .int .i64 0, .int .i64 0, .int .i64 0, .int .i64 0, .int .i64 0, .int .i64 0, .int .i64 0, .int .i64 0, .int .i64 0, .int .i64 0, .int .i64 0, .int .i64 0] 83) := ⟨_, rfl⟩
    have A0 : Arr W w.heap.size (trD a0 a1 a2 a3 a4 a5 a6 a7 b0 b1 b2 b3 b4 b5 b6 b7) := by
      have f := Arr.new w (trD a0 a1 a2 a3 a4 a5 a6 a7 b0 b1 b2 b3 b4 b5 b6 b7)
      have f2 := f.later ((Below.refl _ _).alloc (Nat.le_refl _) (.cells #[.slice ao 8 co, .slice aw nw cw, .slice ab nb cb, .slice sa ns sc] 35))
      have f3 := f2.later ((Below.refl _ _).alloc (Nat.le_refl _) (.cells #[.int .i64 0, .int .i64 0, .int .i64 0, .int .i64 0, .int .i64 0, .int .i64 0, .int .i64 0, .int .i64 0, .int .i64 0, .int .i64 0, .int .i64 0, .int .i64 0, .int .i64 0, .int .i64 0, .int .i64 0, .int .i64 0] 83))
      rw [hW]; exact f3
    have ck := A0.color e8 k hk
    have cc := A0.count e8 k hk
    have fk := A0.frozen (8 + k)
    obtain ⟨W1, hW1⟩ : ∃ W1, W1 = ((w.alloc (.cells ([.int .i64 a0, .int .i64 a1, .int .i64 a2, .int .i64 a3, .int .i64 a4, .int .i64 a5, .int .i64 a6, .int .i64 a7, .int .i64 b0, .int .i64 b1, .int .i64 b2, .int .i64 b3, .int .i64 b4, .int .i64 b5, .int .i64 b6, .int .i64 b7].set (8 + k) (.int .i64 2)).toArray 83)).alloc (.cells #[.slice ao 8 co, .slice aw nw cw, .slice ab nb cb, .slice sa ns sc] 35)).alloc (.cells #[.int .i64 0, .int .i64 0, .int .i64 0, .int .i64 0, .int .i64 0, .int .i64 0, .int .i64 0, .int .i64 0, .int .i64 0, .int .i64 0, .int .i64 0, .int .i64 0, .int .i64 0, .int .i64 0, .int .i64 0, .int .i64 0] 83) := ⟨_, rfl⟩
    have B1 : Below w.heap.size w W1 := by rw [hW1]; exact (((Below.refl _ _).alloc (Nat.le_refl _) _).alloc (by simp) _).alloc (by simp; omega) _
    have s1 : W1.heap.size = w.heap.size + 3 := by rw [hW1]; simp
    have ec : [.int .i64 a0, .int .i64 a1, .int .i64 a2, .int .i64 a3, .int .i64 a4, .int .i64 a5, .int .i64 a6, .int .i64 a7, .int .i64 b0, .int .i64 b1, .int .i64 b2, .int .i64 b3, .int .i64 b4, .int .i64 b5, .int .i64 b6, .int .i64 b7].set (8 + k) (.int .i64 2) = cells16 ⟨(trD a0 a1 a2 a3 a4 a5 a6 a7 b0 b1 b2 b3 b4 b5 b6 b7).counts, (trD a0 a1 a2 a3 a4 a5 a6 a7 b0 b1 b2 b3 b4 b5 b6 b7).colors.set k 2⟩ := by
      unfold cells16
      simp only [List.map_append, List.map_set]
      show (List.map intV (trD a0 a1 a2 a3 a4 a5 a6 a7 b0 b1 b2 b3 b4 b5 b6 b7).counts ++ List.map intV (trD a0 a1 a2 a3 a4 a5 a6 a7 b0 b1 b2 b3 b4 b5 b6 b7).colors).set (8 + k) (intV 2) = _
      rw [List.set_append_right _ _ (by simp [trD]), show 8 + k - (List.map intV (trD a0 a1 a2 a3 a4 a5 a6 a7 b0 b1 b2 b3 b4 b5 b6 b7).counts).length = k from by simp [trD]]
    have A1 : Arr W1 w.heap.size ⟨(trD a0 a1 a2 a3 a4 a5 a6 a7 b0 b1 b2 b3 b4 b5 b6 b7).counts, (trD a0 a1 a2 a3 a4 a5 a6 a7 b0 b1 b2 b3 b4 b5 b6 b7).colors.set k 2⟩ := by
      rw [ec] at hW1
      have f := Arr.new w ⟨(trD a0 a1 a2 a3 a4 a5 a6 a7 b0 b1 b2 b3 b4 b5 b6 b7).counts, (trD a0 a1 a2 a3 a4 a5 a6 a7 b0 b1 b2 b3 b4 b5 b6 b7).colors.set k 2⟩
      have f2 := f.later ((Below.refl _ _).alloc (Nat.le_refl _) (.cells #[.slice ao 8 co, .slice aw nw cw, .slice ab nb cb, .slice sa ns sc] 35))
      have f3 := f2.later ((Below.refl _ _).alloc (Nat.le_refl _) (.cells #[.int .i64 0, .int .i64 0, .int .i64 0, .int .i64 0, .int .i64 0, .int .i64 0, .int .i64 0, .int .i64 0, .int .i64 0, .int .i64 0, .int .i64 0, .int .i64 0, .int .i64 0, .int .i64 0, .int .i64 0, .int .i64 0] 83))
      rw [hW1]; exact f3
    have F1 : Four W1 (w.heap.size + 1) (.slice ao 8 co) (.slice aw nw cw) (.slice ab nb cb) (.slice sa ns sc) := by
      have f := Four.new (w.alloc (.cells ([.int .i64 a0, .int .i64 a1, .int .i64 a2, .int .i64 a3, .int .i64 a4, .int .i64 a5, .int .i64 a6, .int .i64 a7, .int .i64 b0, .int .i64 b1, .int .i64 b2, .int .i64 b3, .int .i64 b4, .int .i64 b5, .int .i64 b6, .int .i64 b7].set (8 + k) (.int .i64 2)).toArray 83)) (.slice ao 8 co) (.slice aw nw cw) (.slice ab nb cb) (.slice sa ns sc)
      have f3 := f.later ((Below.refl _ _).alloc (Nat.le_refl _) (.cells #[.int .i64 0, .int .i64 0, .int .i64 0, .int .i64 0, .int .i64 0, .int .i64 0, .int .i64 0, .int .i64 0, .int .i64 0, .int .i64 0, .int .i64 0, .int .i64 0, .int .i64 0, .int .i64 0, .int .i64 0, .int .i64 0] 83))
      rw [hW1]; simpa using f3
    have Z1 : Arr W1 (w.heap.size + 2) (trD 0 0 0 0 0 0 0 0 0 0 0 0 0 0 0 0) := by
      have f := Arr.new ((w.alloc (.cells ([.int .i64 a0, .int .i64 a1, .int .i64 a2, .int .i64 a3, .int .i64 a4, .int .i64 a5, .int .i64 a6, .int .i64 a7, .int .i64 b0, .int .i64 b1, .int .i64 b2, .int .i64 b3, .int .i64 b4, .int .i64 b5, .int .i64 b6, .int .i64 b7].set (8 + k) (.int .i64 2)).toArray 83)).alloc (.cells #[.slice ao 8 co, .slice aw nw cw, .slice ab nb cb, .slice sa ns sc] 35)) (trD 0 0 0 0 0 0 0 0 0 0 0 0 0 0 0 0)
      have f2 : Arr W1 ((w.alloc (.cells ([.int .i64 a0, .int .i64 a1, .int .i64 a2, .int .i64 a3, .int .i64 a4, .int .i64 a5, .int .i64 a6, .int .i64 a7, .int .i64 b0, .int .i64 b1, .int .i64 b2, .int .i64 b3, .int .i64 b4, .int .i64 b5, .int .i64 b6, .int .i64 b7].set (8 + k) (.int .i64 2)).toArray 83)).alloc (.cells #[.slice ao 8 co, .slice aw nw cw, .slice ab nb cb, .slice sa ns sc] 35)).heap.size (trD 0 0 0 0 0 0 0 0 0 0 0 0 0 0 0 0) := by rw [hW1]; exact f
      simpa using f2
    have HP1 : Hid (∀ X vk ks, Below W1.heap.size W1 X → ownI X (w.heap.size + 3) vk ks → PF w X (.slice ao 8 co) (.slice aw nw cw) (.slice ab nb cb) (.slice sa ns sc) ⟨(trD a0 a1 a2 a3 a4 a5 a6 a7 b0 b1 b2 b3 b4 b5 b6 b7).counts, (trD a0 a1 a2 a3 a4 a5 a6 a7 b0 b1 b2 b3 b4 b5 b6 b7).colors.set k 2⟩ vk ks) := fun X vk ks hX ho =>
      ⟨B1.trans (hX.mono B1.size), A1.later hX, F1.later hX, Z1.later hX, ho⟩
    have hk8 : (k : Int) < 8 := by omega
    clear A1 F1 Z1 ec
    generalize (⟨(trD a0 a1 a2 a3 a4 a5 a6 a7 b0 b1 b2 b3 b4 b5 b6 b7).counts, (trD a0 a1 a2 a3 a4 a5 a6 a7 b0 b1 b2 b3 b4 b5 b6 b7).colors.set k 2⟩ : TrialD) = T1 at HP1 HST HO1
    rw [hc] at ck
    generalize cnt (trD a0 a1 a2 a3 a4 a5 a6 a7 b0 b1 b2 b3 b4 b5 b6 b7) k = q at *
    rw [hW] at ck fk cc
    clear A0 hd hAk e8 hW hc
    rw [trD_v]
    obtain ⟨L, hL⟩ : ∃ L, (kidsOf H (k : Int)).length = L := ⟨_, rfl⟩
    have HL : Hid ((kidsOf H (k : Int)).length = L) := hL
    rw [hL] at hkl
    clear hL
    have Hs1 : Hid (W1.heap.size = w.heap.size + 3) := s1
    go_enter Try.func63, Try.ntmps63
    go_wp2_with fail
    rw [← hW1]
    clear hW1 ck fk cc s1
    refine (CK.out _ B1).mono ?_
    rintro e w2 ⟨vk, rfl, O2, b2⟩
    rw [Hs1.out] at O2
    obtain ⟨ka, kc, hvk, -⟩ := rdI_own O2
    rw [HL.out] at hvk
    subst hvk
    have HPF : Hid (PF w w2 (.slice ao 8 co) (.slice aw nw cw) (.slice ab nb cb) (.slice sa ns sc) T1 (.slice ka L kc) (kidsOf H (k : Int))) := HP1.out _ _ _ b2 O2
    clear b2 O2 CK HP1 B1
    go_wp2
    go_loopw [31] (fun i wr => ∃ (j : Nat) (T2 : TrialD), i = .int .i64 (j : Int) ∧ j ≤ L ∧ Hid (PF w wr (.slice ao 8 co) (.slice aw nw cw) (.slice ab nb cb) (.slice sa ns sc) T2 (.slice ka L kc) (kidsOf H (k : Int))) ∧ Hid (ScMid H T0 A Q P S k j T2) ∧ Hid (colored 1 T2.colors ≤ n)) (fun i _ => L - (intOf i).toNat)
    case atStart => exact ⟨0, T1, rfl, by omega, HPF, HST, HO1⟩
    case round =>
      clear HPF HST HO1
      obtain ⟨j, T2, rfl, hjL, HP, HM, HO⟩ := hrel
      by_cases hlt : j < L
      · have hj2 : j < (kidsOf H (k : Int)).length := by have := HL.out; omega
        obtain ⟨z, hz⟩ : ∃ z, (kidsOf H (k : Int))[j] = z := ⟨_, rfl⟩
        obtain ⟨P2, S2, hD, hAz, hz7, hnx⟩ := scmid_step hy HM.out hj2 z hz
        obtain ⟨m, rfl⟩ : ∃ m : Nat, z = (m : Int) := ⟨z.toNat, by omega⟩
        have hm : m < 8 := by omega
        rw [show ((m : Int)).toNat = m from by omega] at hAz hnx
        obtain ⟨ka2, kc2, hka, hr⟩ := rdI_own' HP.out.kids
        rw [HL.out] at hka
        simp only [Value.slice.injEq] at hka
        obtain ⟨rfl, -, rfl⟩ := hka
        obtain ⟨kg, ko, rfl, hkg, hcz⟩ := hr j hj2
        rw [hz] at hcz
        have hE3 := hD.e
        obtain ⟨p0, p1, p2, p3, p4, p5, p6, p7, p8, p9, p10, p11, p12, p13, p14, p15, rfl⟩ := eight_trD hE3
        have CI : Hid (∀ _ : Unit, _) := fun (_ : Unit) => HIH.out _ _ _ m wr HO.out hD hm hAz HP.out.bel
        rw [trD_v] at CI
        have v0 : wr.cell? ⟨w.heap.size + 1, 0, none⟩ = _ := HP.out.heap.cell 0
        have v1 : wr.cell? ⟨w.heap.size + 1, 1, none⟩ = _ := HP.out.heap.cell 1
        have v2 : wr.cell? ⟨w.heap.size + 1, 2, none⟩ = _ := HP.out.heap.cell 2
        have v3 : wr.cell? ⟨w.heap.size + 1, 3, none⟩ = _ := HP.out.heap.cell 3
        simp only [List.getElem?_toArray, List.getElem?_cons_zero, List.getElem?_cons_succ] at v0 v1 v2 v3
        have HA1 : Hid _ := HP.out.arr
        have hjl : (j : Int) < (L : Int) := by omega
        have HE3 : Hid _ := hE3
        have HD3 : Hid _ := hD
        have HNX : Hid _ := hnx
        clear hD hAz HM hE3 hnx hr hz7 hz
        go_wp2_with (refine wpList_load16 rfl HA1.out ?_)
        clear v0 v1 v2 v3 HA1 hcz
        refine (CI.out ()).mono ?_
        rintro e w3 ⟨T4, rfl, hP4, b3⟩
        have HM4 : Hid (ScMid H T0 A Q P S k (j + 1) T4) := HNX.out T4 hP4
        have PF3 := HP.out.later b3
        have E4 : Eight T4 := by obtain ⟨_, _, h, -⟩ := HM4.out; exact h.e
        have HO4 : Hid (colored 1 T4.colors ≤ n) := by
          obtain ⟨P3, S3, h4, h5, h6, -⟩ := hP4
          exact Nat.le_trans (sc_colored HD3.out h4 h5 h6) HO.out
        obtain ⟨q0, q1, q2, q3, q4, q5, q6, q7, q8, q9, q10, q11, q12, q13, q14, q15, rfl⟩ := eight_trD E4
        have HA3 : Hid _ := PF3.arr
        have HPN : Hid (PF w (set16 w3 w.heap.size q0 q1 q2 q3 q4 q5 q6 q7 q8 q9 q10 q11 q12 q13 q14 q15) (.slice ao 8 co) (.slice aw nw cw) (.slice ab nb cb) (.slice sa ns sc) (trD q0 q1 q2 q3 q4 q5 q6 q7 q8 q9 q10 q11 q12 q13 q14 q15) (.slice (some ⟨kg, ko, none⟩) L kc) (kidsOf H (k : Int))) := PF3.turn (set16_below q0 q1 q2 q3 q4 q5 q6 q7 q8 q9 q10 q11 q12 q13 q14 q15 PF3.bel (Nat.le_refl _)) (fun i hi => set16_other _ _ q0 q1 q2 q3 q4 q5 q6 q7 q8 q9 q10 q11 q12 q13 q14 q15 i hi) (set16_arr PF3.arr HE3.out q0 q1 q2 q3 q4 q5 q6 q7 q8 q9 q10 q11 q12 q13 q14 q15)
        rw [trD_v]
        clear PF3 HP b3 hP4 CI E4
        go_wp2_with (refine wpList_store16 rfl rfl HA3.out HE3.out ?_)
        go_roundw
        case rel => exact ⟨j + 1, trD q0 q1 q2 q3 q4 q5 q6 q7 q8 q9 q10 q11 q12 q13 q14 q15, by go_num, by omega, HPN, HM4, HO4⟩
        case measure => simp [intOf]; omega
      · have hLj : L ≤ j := by omega
        have HFIN : Hid (Scanned H T0 A Q P S k T2) := scmid_end HM.out (by rw [HL.out]; exact hLj)
        have E2 : Eight T2 := by obtain ⟨_, _, h, -⟩ := HM.out; exact h.e
        obtain ⟨p0, p1, p2, p3, p4, p5, p6, p7, p8, p9, p10, p11, p12, p13, p14, p15, rfl⟩ := eight_trD E2
        have HA5 : Hid _ := HP.out.arr
        have HR5 : Hid _ := HP.out.res
        have HZ5 : Hid (Eight (trD 0 0 0 0 0 0 0 0 0 0 0 0 0 0 0 0)) := ⟨rfl, rfl⟩
        obtain ⟨f0_, f1_, f2_, f3_, f4_, f5_, f6_, f7_, f8_, f9_, f10_, f11_, f12_, f13_, f14_, f15_⟩ := (set16_arr HP.out.res HZ5.out p0 p1 p2 p3 p4 p5 p6 p7 p8 p9 p10 p11 p12 p13 p14 p15).all
        have HB : Hid (Below w.heap.size w (set16 wr (w.heap.size + 2) p0 p1 p2 p3 p4 p5 p6 p7 p8 p9 p10 p11 p12 p13 p14 p15)) := set16_below p0 p1 p2 p3 p4 p5 p6 p7 p8 p9 p10 p11 p12 p13 p14 p15 HP.out.bel (by omega)
        clear HP HM HO E2
        go_wp2_with (first | (refine wpList_load16 rfl HA5.out ?_) | (refine wpList_store16 rfl rfl HR5.out HZ5.out ?_))
        exact bodyPost_ret (v := .agg #[.int .i64 p0, .int .i64 p1, .int .i64 p2, .int .i64 p3, .int .i64 p4, .int .i64 p5, .int .i64 p6, .int .i64 p7, .int .i64 p8, .int .i64 p9, .int .i64 p10, .int .i64 p11, .int .i64 p12, .int .i64 p13, .int .i64 p14, .int .i64 p15]) (by simp [results, Try.results63, go_sem, *]) rfl ⟨_, rfl, HFIN.out, HB.out⟩

theorem scanFrom_top (v : Value) (H : HeapD) (hs : SmallH H) (h8 : H.objs.length = 8) (hf : ∀ o ∈ H.objs, ∀ z ∈ o.field, in64 z) (T : TrialD) (k : Nat) (w : World) (hT : Eight T) (hk : k < 8) (h : RdH w v H) :
    Calls Try.prog 63 #[arrV T, v, .int .i64 (k : Int)] w fun e w' => e = .returned (arrV (scanT H T (k : Int))) ∧ Below w.heap.size w w' := by
  refine (scanFrom_calls v H hs h8 hf T (AS H T k) (QS H T k) (as_hyp H T k) _ T [] [] k w (Nat.le_refl _) (sc_start H T _ _ hT) hk (fun hc U h1 _ => h1 hc) h).mono ?_
  rintro e w' ⟨T', rfl, hp, hb⟩
  rw [scanned_all hs hT hk hp]
  exact ⟨rfl, hb⟩
theorem scanT_eight (H : HeapD) (hs : SmallH H) (T : TrialD) (k : Nat) (hT : Eight T) (hk : k < 8) : Eight (scanT H T (k : Int)) := by
  obtain ⟨P, S, h⟩ := scanT_fin H hs T k hT hk
  exact h.sc.e

theorem iScan_calls (v u : Value) (H : HeapD) (T : TrialD) (slot : Int) (w : World) (h : RdH w v H) (ht : RdT w u T) (hs : SmallH H) (hst : SmallT T) (hf : ∀ o ∈ H.objs, ∀ z ∈ o.field, in64 z) (R : TrialD) (hy : OkT H T slot → R = scanT H T slot) (hn : ¬ OkT H T slot → R = T) :
    Calls Try.prog 28 #[v, u, .int .i64 slot] w fun e w' => ∃ s : TSh, e = .returned s.v ∧ TM w' w.heap.size s R ∧ Below w.heap.size w w' := by
  have C : ∀ X, Below w.heap.size w X → Calls Try.prog 60 #[v, u, .int .i64 slot, .func (.func 63) #[] #[]] X fun e w' => ∃ s : TSh, e = .returned s.v ∧ TM w' X.heap.size s R ∧ Below X.heap.size X w' := fun X hX => by
    by_cases hok : OkT H T slot
    · rw [hy hok]
      obtain ⟨k, rfl⟩ : ∃ k : Nat, slot = (k : Int) := ⟨slot.toNat, by have := hok.lo; omega⟩
      have hk : k < 8 := by have := hok.hi; omega
      have hT : Eight T := ⟨hok.counts, hok.colors⟩
      exact iTried_yes v u _ tryScan H T _ k X (rdH_later h hX) (rdT_later ht hX) hs hst hok (scanT_eight H hs T k hT hk) (fun Y hY => scanFrom_top v H hs hok.objs hf T k Y hT hk (rdH_later (rdH_later h hX) hY))
    · rw [hn hok]
      exact iTried_no v u _ H T slot X (rdH_later h hX) (rdT_later ht hX) hs hst hok
  have CT : Hid (∀ X, Below w.heap.size w X → _) := C
  clear C hy hn
  obtain ⟨ao, co, aw, cw, ab, cb, sa, sc, rfl, -, -, -, -⟩ := h
  obtain ⟨xa, xc, ya, yc, rfl, -, -⟩ := ht
  obtain ⟨W, hW⟩ : ∃ W, W = ((w.alloc (.cells #[.slice ao H.objs.length co, .slice aw H.weaks.length cw, .slice ab H.buffer.length cb, .slice sa H.sites.length sc] 35)).alloc (.cells #[.slice xa T.counts.length xc, .slice ya T.colors.length yc] 30)).alloc (.cells #[.slice none 0 0, .slice none 0 0] 30) := ⟨_, rfl⟩
  have BW : Below w.heap.size w W := by rw [hW]; exact (((Below.refl _ _).alloc (Nat.le_refl _) _).alloc (by simp) _).alloc (by simp; omega) _
  have hWs : W.heap.size = w.heap.size + 3 := by rw [hW]; simp
  have FR : Two W (w.heap.size + 2) (.slice none 0 0) (.slice none 0 0) := by
    have f := Two.new ((w.alloc (.cells #[.slice ao H.objs.length co, .slice aw H.weaks.length cw, .slice ab H.buffer.length cb, .slice sa H.sites.length sc] 35)).alloc (.cells #[.slice xa T.counts.length xc, .slice ya T.colors.length yc] 30)) (.slice none 0 0) (.slice none 0 0)
    rw [← hW] at f
    simpa using f
  have HFR : Hid (∀ X, Below W.heap.size W X → Two X (w.heap.size + 2) (.slice none 0 0) (.slice none 0 0)) := fun X hX => FR.later hX (by omega)
  have HBW : Hid (∀ X, Below W.heap.size W X → Below w.heap.size w X) := fun X hX => BW.trans (hX.mono BW.size)
  have HWs : Hid (W.heap.size = w.heap.size + 3) := hWs
  clear FR hWs hs hst hf
  go_enter Try.func28, Try.ntmps28
  go_wp2_with fail
  rw [← hW]
  clear hW
  refine (CT.out _ BW).mono ?_
  rintro e w1 ⟨s, rfl, M1, b1⟩
  have F1 := HFR.out _ b1
  have c0 : w1.cell? ⟨w.heap.size + 2, 0, none⟩ = some (.slice none 0 0) := F1.cell 0
  have c1 : w1.cell? ⟨w.heap.size + 2, 1, none⟩ = some (.slice none 0 0) := F1.cell 1
  have f0 := F1.frozen 0
  have f1 := F1.frozen 1
  obtain ⟨k0, k1⟩ := setTwo_cell (.slice s.a s.n s.c) (.slice s.b s.m s.d) F1
  have HT : Hid (TM (setTwo w1 (w.heap.size + 2) (.slice s.a s.n s.c) (.slice s.b s.m s.d)) w.heap.size s R) := by
    have hle : w.heap.size ≤ W.heap.size := by have := HWs.out; omega
    exact (M1.same (fun g hg _ => setTwo_other _ _ _ _ g (by have := HWs.out; omega))).mono hle
  have HB : Hid (Below w.heap.size w (setTwo w1 (w.heap.size + 2) (.slice s.a s.n s.c) (.slice s.b s.m s.d))) := by
    unfold setTwo
    exact ((HBW.out _ b1).setCell (by simp) _).setCell (by simp) _
  unfold setTwo at HT HB k0 k1
  clear F1 M1 BW b1 CT
  have hv : s.v = .agg #[.slice s.a s.n s.c, .slice s.b s.m s.d] := rfl
  rw [hv]
  go_wp2
  exact bodyPost_ret (v := .agg #[.slice s.a s.n s.c, .slice s.b s.m s.d]) (by simp [results, Try.results28, go_sem, *]) rfl ⟨s, rfl, HT.out, HB.out⟩

end Go.Proofs.Ytjhceoejblmihaa
