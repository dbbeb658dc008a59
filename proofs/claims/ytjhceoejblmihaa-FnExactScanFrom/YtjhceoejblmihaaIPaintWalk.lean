/- What impl's painted makes: the walk. -/
import Derived.Test.YtjhceoejblmihaaIPaint
import Derived.Test.YtjhceoejblmihaaAnyOps
import Derived.Shelf.Strconv.Clone
namespace Go.Proofs.Ytjhceoejblmihaa
open Go.RowKit
set_option linter.unusedVariables false
set_option maxRecDepth 100000

set_option maxHeartbeats 4000000 in
theorem painted_same (v : Value) (H : HeapD) (c d : Int) (T : TrialD) (k : Nat) (w : World) (h8 : Eight T) (hk : k < 8) (hc : col T k = c) (h : RdH w v H) :
    Calls Try.prog 99 #[arrV T, v, .int .i64 (k : Int), .int .i64 c, .int .i64 d] w fun e w' => e = .returned (arrV T) ∧ Below w.heap.size w w' := by
  obtain ⟨ao, co, aw, cw, ab, cb, sa, sc, rfl, -, -, -, -⟩ := h
  obtain ⟨a0, a1, a2, a3, a4, a5, a6, a7, b0, b1, b2, b3, b4, b5, b6, b7, rfl⟩ := eight_trD h8
  obtain ⟨W, hW⟩ : ∃ W, W = ((w.alloc (.cells #[.int .i64 a0, .int .i64 a1, .int .i64 a2, .int .i64 a3, .int .i64 a4, .int .i64 a5, .int .i64 a6, .int .i64 a7, .int .i64 b0, .int .i64 b1, .int .i64 b2, .int .i64 b3, .int .i64 b4, .int .i64 b5, .int .i64 b6, .int .i64 b7] 83)).alloc (.cells #[.slice ao H.objs.length co, .slice aw H.weaks.length cw, .slice ab H.buffer.length cb, .slice sa H.sites.length sc] 35)).alloc (.cells #[.int .i64 0, .int .i64 0, .int .i64 0, .int .i64 0, .int .i64 0, .int .i64 0, .int .i64 0, .int .i64 0, .int .i64 0, .int .i64 0, .int .i64 0, .int .i64 0, .int .i64 0, .int .i64 0, .int .i64 0, .int .i64 0] 83) := ⟨_, rfl⟩
  have A0 : Arr W w.heap.size (trD a0 a1 a2 a3 a4 a5 a6 a7 b0 b1 b2 b3 b4 b5 b6 b7) := by
    have f := Arr.new w (trD a0 a1 a2 a3 a4 a5 a6 a7 b0 b1 b2 b3 b4 b5 b6 b7)
    have f2 := f.later ((Below.refl _ _).alloc (Nat.le_refl _) (.cells #[.slice ao H.objs.length co, .slice aw H.weaks.length cw, .slice ab H.buffer.length cb, .slice sa H.sites.length sc] 35))
    have f3 := f2.later ((Below.refl _ _).alloc (Nat.le_refl _) (.cells #[.int .i64 0, .int .i64 0, .int .i64 0, .int .i64 0, .int .i64 0, .int .i64 0, .int .i64 0, .int .i64 0, .int .i64 0, .int .i64 0, .int .i64 0, .int .i64 0, .int .i64 0, .int .i64 0, .int .i64 0, .int .i64 0] 83))
    rw [hW]; exact f3
  have ck := A0.color h8 k hk
  rw [hc] at ck
  rw [hW] at ck
  have hk8 : (k : Int) < 8 := by omega
  clear A0 hc hW
  rw [trD_v]
  go_enter Try.func99, Try.ntmps99
  go_wp2
  refine bodyPost_ret (v := .agg #[.int .i64 a0, .int .i64 a1, .int .i64 a2, .int .i64 a3, .int .i64 a4, .int .i64 a5, .int .i64 a6, .int .i64 a7, .int .i64 b0, .int .i64 b1, .int .i64 b2, .int .i64 b3, .int .i64 b4, .int .i64 b5, .int .i64 b6, .int .i64 b7]) (by simp [results, Try.results99, go_sem, *]) rfl ⟨rfl, ?_⟩
  exact (((Below.refl _ _).alloc (Nat.le_refl _) _).alloc (by simp) _).alloc (by simp; omega) _

theorem others_le_of {c : Int} {T T' : TrialD} (h8 : Eight T) (h8' : Eight T') (h : ∀ j, j < 8 → col T' j ≠ c → col T j ≠ c) : others c T'.colors ≤ others c T.colors := by
  obtain ⟨a0, a1, a2, a3, a4, a5, a6, a7, b0, b1, b2, b3, b4, b5, b6, b7, rfl⟩ := eight_form h8
  obtain ⟨x0, x1, x2, x3, x4, x5, x6, x7, y0, y1, y2, y3, y4, y5, y6, y7, rfl⟩ := eight_form h8'
  have e0 := h 0 (by omega)
  have e1 := h 1 (by omega)
  have e2 := h 2 (by omega)
  have e3 := h 3 (by omega)
  have e4 := h 4 (by omega)
  have e5 := h 5 (by omega)
  have e6 := h 6 (by omega)
  have e7 := h 7 (by omega)
  simp only [col, List.getD_cons_zero, List.getD_cons_succ] at e0 e1 e2 e3 e4 e5 e6 e7
  have one : ∀ x y : Int, (y ≠ c → x ≠ c) → (if (!decide (y = c)) = true then 1 else 0) ≤ (if (!decide (x = c)) = true then 1 else 0) := fun x y hxy => by
    by_cases hy : y = c
    · simp [hy]
    · simp [hy, hxy hy]
  have g0 := one _ _ e0
  have g1 := one _ _ e1
  have g2 := one _ _ e2
  have g3 := one _ _ e3
  have g4 := one _ _ e4
  have g5 := one _ _ e5
  have g6 := one _ _ e6
  have g7 := one _ _ e7
  simp only [others, List.countP_cons, List.countP_nil]
  omega
/-- What is painted stays painted. -/
theorem deep_others {d c : Int} {H : HeapD} {T0 T T' : TrialD} {R : Nat → Prop} {C C' : List Nat} {M M' : List Int} (h : Deep d c H T0 R T C M) (h' : Deep d c H T0 R T' C' M') (hC : ∀ x ∈ C, x ∈ C') : others c T'.colors ≤ others c T.colors :=
  others_le_of h.pt.e h'.pt.e (fun j hj hne => by
    rw [h'.pt.col j hj] at hne
    rw [h.pt.col j hj]
    by_cases hm : j ∈ C
    · rw [if_pos (hC j hm)] at hne; exact absurd rfl hne
    · rw [if_neg hm]
      by_cases hm' : j ∈ C'
      · rw [if_pos hm'] at hne; exact absurd rfl hne
      · rw [if_neg hm'] at hne; exact hne)

/-- The frame of a call: the trial's own block, the heap's, the result's, the row of kids. -/
structure PF (w wr : World) (x0 x1 x2 x3 : Value) (T : TrialD) (vk : Value) (ks : List Int) : Prop where
  bel : Below w.heap.size w wr
  arr : Arr wr w.heap.size T
  heap : Four wr (w.heap.size + 1) x0 x1 x2 x3
  res : Arr wr (w.heap.size + 2) (trD 0 0 0 0 0 0 0 0 0 0 0 0 0 0 0 0)
  kids : ownI wr (w.heap.size + 3) vk ks
theorem PF.later {w wr X : World} {x0 x1 x2 x3 : Value} {T : TrialD} {vk : Value} {ks : List Int} (h : PF w wr x0 x1 x2 x3 T vk ks) (hb : Below wr.heap.size wr X) : PF w X x0 x1 x2 x3 T vk ks :=
  ⟨h.bel.trans (hb.mono h.bel.size), h.arr.later hb, h.heap.later hb, h.res.later hb, ownI_later h.kids hb⟩
/-- Another trial lies in its block. -/
theorem PF.turn {w wr X : World} {x0 x1 x2 x3 : Value} {T T' : TrialD} {vk : Value} {ks : List Int} (h : PF w wr x0 x1 x2 x3 T vk ks) (hb : Below w.heap.size w X) (ho : ∀ i, i ≠ w.heap.size → X.heap[i]? = wr.heap[i]?) (ha : Arr X w.heap.size T') : PF w X x0 x1 x2 x3 T' vk ks :=
  ⟨hb, ha, h.heap.same (ho _ (by omega)), h.res.same (ho _ (by omega)), ownI_same h.kids (fun g hg => ho g (by have := (ownI_lt h.kids g hg).1; omega))⟩

set_option maxHeartbeats 16000000 in
theorem painted_calls (v : Value) (H : HeapD) (c d : Int) (hs : SmallH H) (h8 : H.objs.length = 8) (hf : ∀ o ∈ H.objs, ∀ z ∈ o.field, in64 z) (T0 : TrialD) (R : Nat → Prop) (hR : Runs c H T0 R) :
    ∀ (n : Nat) (T : TrialD) (C : List Nat) (M : List Int) (k : Nat) (w : World), others c T.colors ≤ n → Deep d c H T0 R T C M → k < 8 → (col T0 k ≠ c → R k) → RdH w v H →
      Calls Try.prog 99 #[arrV T, v, .int .i64 (k : Int), .int .i64 c, .int .i64 d] w fun e w' => ∃ T', e = .returned (arrV T') ∧ Painted d c H T0 R C M k T' ∧ Below w.heap.size w w' := by
  intro n
  induction n with
  | zero =>
    intro T C M k w hn hd hk hRk h
    have hc : col T k = c := Decidable.byContradiction fun hne => by
      have hl : k < T.colors.length := by have := hd.pt.e.2; omega
      unfold col at hne
      rw [List.getD_eq_getElem?_getD, List.getElem?_eq_getElem hl, Option.getD_some] at hne
      have := others_set c T.colors k hl hne
      omega
    refine (painted_same v H c d T k w hd.pt.e hk hc h).mono ?_
    rintro e w' ⟨rfl, hb⟩
    exact ⟨T, rfl, painted_yes hd hk hc, hb⟩
  | succ n ih =>
    intro T C M k w hn hd hk hRk h
    by_cases hc : col T k = c
    · refine (painted_same v H c d T k w hd.pt.e hk hc h).mono ?_
      rintro e w' ⟨rfl, hb⟩
      exact ⟨T, rfl, painted_yes hd hk hc, hb⟩
    have HR1 : Hid (∀ X, Below w.heap.size w X → RdH X v H) := fun X hX => rdH_later h hX
    have HST : Hid (Midst d c H T0 R C M k 0 ⟨T.counts, T.colors.set k c⟩) := midst_start hd hk hRk hc
    have HE1 : Hid (Eight ⟨T.counts, T.colors.set k c⟩) := ⟨hd.pt.e.1, by simpa using hd.pt.e.2⟩
    have HO1 : Hid (others c (TrialD.mk T.counts (T.colors.set k c)).colors ≤ n) := by
      have hl : k < T.colors.length := by have := hd.pt.e.2; omega
      have hne := hc
      unfold col at hne
      rw [List.getD_eq_getElem?_getD, List.getElem?_eq_getElem hl, Option.getD_some] at hne
      have := others_set c T.colors k hl hne
      show others c (T.colors.set k c) ≤ n
      omega
    have hk2 : k < H.objs.length := by omega
    have CK : Hid (∀ X, Below w.heap.size w X → _) := fun X hX => iKids_calls v H k X (HR1.out X hX) hs hk2 (hf _ (List.getElem_mem hk2))
    rw [← kidsOf_at H k hk2] at CK
    have hkl := kidsOf_le H (k : Int) hs
    have HIH : Hid (∀ (T : TrialD) (C : List Nat) (M : List Int) (j : Nat) (w' : World), others c T.colors ≤ n → Deep d c H T0 R T C M → j < 8 → (col T0 j ≠ c → R j) → Below w.heap.size w w' → _) := fun T C M j w' h1 h2 h3 h4 h5 => ih T C M j w' h1 h2 h3 h4 (HR1.out w' h5)
    have e8 := hd.pt.e
    obtain ⟨ao, co, aw, cw, ab, cb, sa, sc, rfl, -, -, -, -⟩ := h
    obtain ⟨a0, a1, a2, a3, a4, a5, a6, a7, b0, b1, b2, b3, b4, b5, b6, b7, rfl⟩ := eight_trD e8
    rw [h8] at CK HIH HR1 ⊢
    generalize H.weaks.length = nw at *
    generalize H.buffer.length = nb at *
    generalize H.sites.length = ns at *
    obtain ⟨W, hW⟩ : ∃ W, W = ((w.alloc (.cells #[.int .i64 a0, .int .i64 a1, .int .i64 a2, .int .i64 a3, .int .i64 a4, .int .i64 a5, .int .i64 a6, .int .i64 a7, .int .i64 b0, .int .i64 b1, .int .i64 b2, .int .i64 b3, .int .i64 b4, .int .i64 b5, .int .i64 b6, .int .i64 b7] 83)).alloc (.cells #[.slice ao 8 co, .slice aw nw cw, .slice ab nb cb, .slice sa ns sc] 35)).alloc (.cells #[.int .i64 0, .int .i64 0, .int .i64 0, .int .i64 0, .int .i64 0, .int .i64 0, .int .i64 0, .int .i64 0, .int .i64 0, .int .i64 0, .int .i64 0, .int .i64 0, .int .i64 0, .int .i64 0, .int .i64 0, .int .i64 0] 83) := ⟨_, rfl⟩
    have BW : Below w.heap.size w W := by rw [hW]; exact (((Below.refl _ _).alloc (Nat.le_refl _) _).alloc (by simp) _).alloc (by simp; omega) _
    have sW : W.heap.size = w.heap.size + 3 := by rw [hW]; simp
    have A0 : Arr W w.heap.size (trD a0 a1 a2 a3 a4 a5 a6 a7 b0 b1 b2 b3 b4 b5 b6 b7) := by
      have f := Arr.new w (trD a0 a1 a2 a3 a4 a5 a6 a7 b0 b1 b2 b3 b4 b5 b6 b7)
      have f2 := f.later ((Below.refl _ _).alloc (Nat.le_refl _) (.cells #[.slice ao 8 co, .slice aw nw cw, .slice ab nb cb, .slice sa ns sc] 35))
      have f3 := f2.later ((Below.refl _ _).alloc (Nat.le_refl _) (.cells #[.int .i64 0, .int .i64 0, .int .i64 0, .int .i64 0, .int .i64 0, .int .i64 0, .int .i64 0, .int .i64 0, .int .i64 0, .int .i64 0, .int .i64 0, .int .i64 0, .int .i64 0, .int .i64 0, .int .i64 0, .int .i64 0] 83))
      rw [hW]; exact f3
    have F0 : Four W (w.heap.size + 1) (.slice ao 8 co) (.slice aw nw cw) (.slice ab nb cb) (.slice sa ns sc) := by
      have f := Four.new (w.alloc (.cells #[.int .i64 a0, .int .i64 a1, .int .i64 a2, .int .i64 a3, .int .i64 a4, .int .i64 a5, .int .i64 a6, .int .i64 a7, .int .i64 b0, .int .i64 b1, .int .i64 b2, .int .i64 b3, .int .i64 b4, .int .i64 b5, .int .i64 b6, .int .i64 b7] 83)) (.slice ao 8 co) (.slice aw nw cw) (.slice ab nb cb) (.slice sa ns sc)
      have f3 := f.later ((Below.refl _ _).alloc (Nat.le_refl _) (.cells #[.int .i64 0, .int .i64 0, .int .i64 0, .int .i64 0, .int .i64 0, .int .i64 0, .int .i64 0, .int .i64 0, .int .i64 0, .int .i64 0, .int .i64 0, .int .i64 0, .int .i64 0, .int .i64 0, .int .i64 0, .int .i64 0] 83))
      rw [hW]; simpa using f3
    have Z0 : Arr W (w.heap.size + 2) (trD 0 0 0 0 0 0 0 0 0 0 0 0 0 0 0 0) := by
      have f := Arr.new ((w.alloc (.cells #[.int .i64 a0, .int .i64 a1, .int .i64 a2, .int .i64 a3, .int .i64 a4, .int .i64 a5, .int .i64 a6, .int .i64 a7, .int .i64 b0, .int .i64 b1, .int .i64 b2, .int .i64 b3, .int .i64 b4, .int .i64 b5, .int .i64 b6, .int .i64 b7] 83)).alloc (.cells #[.slice ao 8 co, .slice aw nw cw, .slice ab nb cb, .slice sa ns sc] 35)) (trD 0 0 0 0 0 0 0 0 0 0 0 0 0 0 0 0)
      have f2 : Arr W ((w.alloc (.cells #[.int .i64 a0, .int .i64 a1, .int .i64 a2, .int .i64 a3, .int .i64 a4, .int .i64 a5, .int .i64 a6, .int .i64 a7, .int .i64 b0, .int .i64 b1, .int .i64 b2, .int .i64 b3, .int .i64 b4, .int .i64 b5, .int .i64 b6, .int .i64 b7] 83)).alloc (.cells #[.slice ao 8 co, .slice aw nw cw, .slice ab nb cb, .slice sa ns sc] 35)).heap.size (trD 0 0 0 0 0 0 0 0 0 0 0 0 0 0 0 0) := by rw [hW]; exact f
      simpa using f2
    have ck := A0.color e8 k hk
    have fk := A0.frozen (8 + k)
    obtain ⟨W1, hW1⟩ : ∃ W1, W1 = ((w.alloc (.cells ([.int .i64 a0, .int .i64 a1, .int .i64 a2, .int .i64 a3, .int .i64 a4, .int .i64 a5, .int .i64 a6, .int .i64 a7, .int .i64 b0, .int .i64 b1, .int .i64 b2, .int .i64 b3, .int .i64 b4, .int .i64 b5, .int .i64 b6, .int .i64 b7].set (8 + k) (.int .i64 c)).toArray 83)).alloc (.cells #[.slice ao 8 co, .slice aw nw cw, .slice ab nb cb, .slice sa ns sc] 35)).alloc (.cells #[.int .i64 0, .int .i64 0, .int .i64 0, .int .i64 0, .int .i64 0, .int .i64 0, .int .i64 0, .int .i64 0, .int .i64 0, .int .i64 0, .int .i64 0, .int .i64 0, .int .i64 0, .int .i64 0, .int .i64 0, .int .i64 0] 83) := ⟨_, rfl⟩
    have B1 : Below w.heap.size w W1 := by rw [hW1]; exact (((Below.refl _ _).alloc (Nat.le_refl _) _).alloc (by simp) _).alloc (by simp; omega) _
    have s1 : W1.heap.size = w.heap.size + 3 := by rw [hW1]; simp
    have ec : [.int .i64 a0, .int .i64 a1, .int .i64 a2, .int .i64 a3, .int .i64 a4, .int .i64 a5, .int .i64 a6, .int .i64 a7, .int .i64 b0, .int .i64 b1, .int .i64 b2, .int .i64 b3, .int .i64 b4, .int .i64 b5, .int .i64 b6, .int .i64 b7].set (8 + k) (.int .i64 c) = cells16 ⟨(trD a0 a1 a2 a3 a4 a5 a6 a7 b0 b1 b2 b3 b4 b5 b6 b7).counts, (trD a0 a1 a2 a3 a4 a5 a6 a7 b0 b1 b2 b3 b4 b5 b6 b7).colors.set k c⟩ := by
      unfold cells16
      simp only [List.map_append, List.map_set]
      show (List.map intV (trD a0 a1 a2 a3 a4 a5 a6 a7 b0 b1 b2 b3 b4 b5 b6 b7).counts ++ List.map intV (trD a0 a1 a2 a3 a4 a5 a6 a7 b0 b1 b2 b3 b4 b5 b6 b7).colors).set (8 + k) (intV c) = _
      rw [List.set_append_right _ _ (by simp [trD]), show 8 + k - (List.map intV (trD a0 a1 a2 a3 a4 a5 a6 a7 b0 b1 b2 b3 b4 b5 b6 b7).counts).length = k from by simp [trD]]
    have A1 : Arr W1 w.heap.size ⟨(trD a0 a1 a2 a3 a4 a5 a6 a7 b0 b1 b2 b3 b4 b5 b6 b7).counts, (trD a0 a1 a2 a3 a4 a5 a6 a7 b0 b1 b2 b3 b4 b5 b6 b7).colors.set k c⟩ := by
      rw [ec] at hW1
      have f := Arr.new w ⟨(trD a0 a1 a2 a3 a4 a5 a6 a7 b0 b1 b2 b3 b4 b5 b6 b7).counts, (trD a0 a1 a2 a3 a4 a5 a6 a7 b0 b1 b2 b3 b4 b5 b6 b7).colors.set k c⟩
      have f2 := f.later ((Below.refl _ _).alloc (Nat.le_refl _) (.cells #[.slice ao 8 co, .slice aw nw cw, .slice ab nb cb, .slice sa ns sc] 35))
      have f3 := f2.later ((Below.refl _ _).alloc (Nat.le_refl _) (.cells #[.int .i64 0, .int .i64 0, .int .i64 0, .int .i64 0, .int .i64 0, .int .i64 0, .int .i64 0, .int .i64 0, .int .i64 0, .int .i64 0, .int .i64 0, .int .i64 0, .int .i64 0, .int .i64 0, .int .i64 0, .int .i64 0] 83))
      rw [hW1]; exact f3
    have F1 : Four W1 (w.heap.size + 1) (.slice ao 8 co) (.slice aw nw cw) (.slice ab nb cb) (.slice sa ns sc) := by
      have f := Four.new (w.alloc (.cells ([.int .i64 a0, .int .i64 a1, .int .i64 a2, .int .i64 a3, .int .i64 a4, .int .i64 a5, .int .i64 a6, .int .i64 a7, .int .i64 b0, .int .i64 b1, .int .i64 b2, .int .i64 b3, .int .i64 b4, .int .i64 b5, .int .i64 b6, .int .i64 b7].set (8 + k) (.int .i64 c)).toArray 83)) (.slice ao 8 co) (.slice aw nw cw) (.slice ab nb cb) (.slice sa ns sc)
      have f3 := f.later ((Below.refl _ _).alloc (Nat.le_refl _) (.cells #[.int .i64 0, .int .i64 0, .int .i64 0, .int .i64 0, .int .i64 0, .int .i64 0, .int .i64 0, .int .i64 0, .int .i64 0, .int .i64 0, .int .i64 0, .int .i64 0, .int .i64 0, .int .i64 0, .int .i64 0, .int .i64 0] 83))
      rw [hW1]; simpa using f3
    have Z1 : Arr W1 (w.heap.size + 2) (trD 0 0 0 0 0 0 0 0 0 0 0 0 0 0 0 0) := by
      have f := Arr.new ((w.alloc (.cells ([.int .i64 a0, .int .i64 a1, .int .i64 a2, .int .i64 a3, .int .i64 a4, .int .i64 a5, .int .i64 a6, .int .i64 a7, .int .i64 b0, .int .i64 b1, .int .i64 b2, .int .i64 b3, .int .i64 b4, .int .i64 b5, .int .i64 b6, .int .i64 b7].set (8 + k) (.int .i64 c)).toArray 83)).alloc (.cells #[.slice ao 8 co, .slice aw nw cw, .slice ab nb cb, .slice sa ns sc] 35)) (trD 0 0 0 0 0 0 0 0 0 0 0 0 0 0 0 0)
      have f2 : Arr W1 ((w.alloc (.cells ([.int .i64 a0, .int .i64 a1, .int .i64 a2, .int .i64 a3, .int .i64 a4, .int .i64 a5, .int .i64 a6, .int .i64 a7, .int .i64 b0, .int .i64 b1, .int .i64 b2, .int .i64 b3, .int .i64 b4, .int .i64 b5, .int .i64 b6, .int .i64 b7].set (8 + k) (.int .i64 c)).toArray 83)).alloc (.cells #[.slice ao 8 co, .slice aw nw cw, .slice ab nb cb, .slice sa ns sc] 35)).heap.size (trD 0 0 0 0 0 0 0 0 0 0 0 0 0 0 0 0) := by rw [hW1]; exact f
      simpa using f2
    have HP1 : Hid (∀ X vk ks, Below W1.heap.size W1 X → ownI X (w.heap.size + 3) vk ks → PF w X (.slice ao 8 co) (.slice aw nw cw) (.slice ab nb cb) (.slice sa ns sc) ⟨(trD a0 a1 a2 a3 a4 a5 a6 a7 b0 b1 b2 b3 b4 b5 b6 b7).counts, (trD a0 a1 a2 a3 a4 a5 a6 a7 b0 b1 b2 b3 b4 b5 b6 b7).colors.set k c⟩ vk ks) := fun X vk ks hX ho =>
      ⟨B1.trans (hX.mono B1.size), A1.later hX, F1.later hX, Z1.later hX, ho⟩
    have hk8 : (k : Int) < 8 := by omega
    clear A1 F1 Z1 ec
    generalize (⟨(trD a0 a1 a2 a3 a4 a5 a6 a7 b0 b1 b2 b3 b4 b5 b6 b7).counts, (trD a0 a1 a2 a3 a4 a5 a6 a7 b0 b1 b2 b3 b4 b5 b6 b7).colors.set k c⟩ : TrialD) = T1 at HP1 HST HE1 HO1
    generalize col (trD a0 a1 a2 a3 a4 a5 a6 a7 b0 b1 b2 b3 b4 b5 b6 b7) k = q at *
    rw [hW] at ck fk
    clear A0 F0 Z0 hd hRk e8 hW BW sW
    rw [trD_v]
    obtain ⟨L, hL⟩ : ∃ L, (kidsOf H (k : Int)).length = L := ⟨_, rfl⟩
    have HL : Hid ((kidsOf H (k : Int)).length = L) := hL
    rw [hL] at hkl
    clear hL
    have Hs1 : Hid (W1.heap.size = w.heap.size + 3) := s1
    go_enter Try.func99, Try.ntmps99
    go_wp2_with fail
    rw [← hW1]
    clear hW1 ck fk s1
    refine (CK.out _ B1).mono ?_
    rintro e w2 ⟨vk, rfl, O2, b2⟩
    rw [Hs1.out] at O2
    obtain ⟨ka, kc, hvk, -⟩ := rdI_own O2
    rw [HL.out] at hvk
    subst hvk
    have HPF : Hid (PF w w2 (.slice ao 8 co) (.slice aw nw cw) (.slice ab nb cb) (.slice sa ns sc) T1 (.slice ka L kc) (kidsOf H (k : Int))) := HP1.out _ _ _ b2 O2
    clear b2 O2 CK HP1 B1
    go_wp2
    go_loopw [28] (fun i wr => ∃ (j : Nat) (T2 : TrialD), i = .int .i64 (j : Int) ∧ j ≤ L ∧ Hid (PF w wr (.slice ao 8 co) (.slice aw nw cw) (.slice ab nb cb) (.slice sa ns sc) T2 (.slice ka L kc) (kidsOf H (k : Int))) ∧ Hid (Midst d c H T0 R C M k j T2) ∧ Hid (others c T2.colors ≤ n)) (fun i _ => L - (intOf i).toNat)
    case atStart => exact ⟨0, T1, rfl, by omega, HPF, HST, HO1⟩
    case round =>
      clear HPF HST HO1 HE1
      obtain ⟨j, T2, rfl, hjL, HP, HM, HO⟩ := hrel
      by_cases hlt : j < L
      · have hj2 : j < (kidsOf H (k : Int)).length := by have := HL.out; omega
        obtain ⟨z, hz⟩ : ∃ z, (kidsOf H (k : Int))[j] = z := ⟨_, rfl⟩
        obtain ⟨C2, hD, hsh, hks, hRz, hz7⟩ := midst_count hR HM.out hj2 z hz
        obtain ⟨m, rfl⟩ : ∃ m : Nat, z = (m : Int) := ⟨z.toNat, by omega⟩
        have hm : m < 8 := by omega
        rw [show ((m : Int)).toNat = m from by omega] at hD hRz
        obtain ⟨ka2, kc2, hka, hr⟩ := rdI_own' HP.out.kids
        rw [HL.out] at hka
        simp only [Value.slice.injEq] at hka
        obtain ⟨rfl, -, rfl⟩ := hka
        obtain ⟨kg, ko, rfl, hkg, hcz⟩ := hr j hj2
        rw [hz] at hcz
        have HZ : Hid (_ = _) := hz
        have E2 : Eight T2 := by obtain ⟨_, h, -⟩ := HM.out; exact h.pt.e
        have c2 := HP.out.arr.count E2 m hm
        have f2 := HP.out.arr.frozen m
        have e0 : T2.counts.getD m 0 = cnt T2 m := rfl
        rw [e0] at hD
        obtain ⟨y, hy⟩ : ∃ y, wrap64 (cnt T2 m + d) = y := ⟨_, rfl⟩
        rw [hy] at hD
        obtain ⟨X1, hX1⟩ : ∃ X1, X1 = wr.setCell ⟨w.heap.size, m, none⟩ (.int .i64 y) := ⟨_, rfl⟩
        have A1 : Arr X1 w.heap.size ⟨T2.counts.set m y, T2.colors⟩ := by rw [hX1]; exact HP.out.arr.setCount E2 m hm y
        have BX1 : Below w.heap.size w X1 := by rw [hX1]; exact HP.out.bel.setCell (p := ⟨w.heap.size, m, none⟩) (Nat.le_refl _) _
        have HPX : Hid (PF w X1 (.slice ao 8 co) (.slice aw nw cw) (.slice ab nb cb) (.slice sa ns sc) ⟨T2.counts.set m y, T2.colors⟩ (.slice (some ⟨kg, ko, none⟩) L kc) (kidsOf H (k : Int))) := HP.out.turn BX1 (fun i hi => by rw [hX1]; exact heap_setCell_other _ _ _ _ hi) A1
        have HO3 : Hid (others c (TrialD.mk (T2.counts.set m y) T2.colors).colors ≤ n) := HO
        generalize cnt T2 m = x at *
        have hE3 := hD.pt.e
        generalize (TrialD.mk (T2.counts.set m y) T2.colors) = T3 at *
        obtain ⟨p0, p1, p2, p3, p4, p5, p6, p7, p8, p9, p10, p11, p12, p13, p14, p15, rfl⟩ := eight_trD hE3
        have CI : Hid (∀ _ : Unit, _) := fun (_ : Unit) => HIH.out _ _ _ m X1 HO3.out hD hm hRz BX1
        rw [trD_v] at CI
        have v0 : X1.cell? ⟨w.heap.size + 1, 0, none⟩ = _ := HPX.out.heap.cell 0
        have v1 : X1.cell? ⟨w.heap.size + 1, 1, none⟩ = _ := HPX.out.heap.cell 1
        have v2 : X1.cell? ⟨w.heap.size + 1, 2, none⟩ = _ := HPX.out.heap.cell 2
        have v3 : X1.cell? ⟨w.heap.size + 1, 3, none⟩ = _ := HPX.out.heap.cell 3
        simp only [List.getElem?_toArray, List.getElem?_cons_zero, List.getElem?_cons_succ] at v0 v1 v2 v3
        have HA1 : Hid _ := A1
        rw [hX1] at v0 v1 v2 v3 HA1
        have hm8 : (m : Int) < 8 := by omega
        have hjl : (j : Int) < (L : Int) := by omega
        have HE3 : Hid _ := hE3
        have HD3 : Hid _ := hD
        have HSH : Hid _ := hsh
        have HKS : Hid _ := hks
        clear A1 BX1 hD hRz E2 HM HP e0 hE3 hsh hks HO hr hz7 hz
        go_wp2_with (refine wpList_load16 rfl HA1.out ?_)
        rw [← hX1]
        clear hX1 v0 v1 v2 v3 c2 f2 HA1 hcz
        refine (CI.out ()).mono ?_
        rintro e w3 ⟨T4, rfl, hP4, b3⟩
        have HM4 : Hid (Midst d c H T0 R C M k (j + 1) T4) := midst_step hj2 (m : Int) HZ.out HSH.out HKS.out (by rw [show ((m : Int)).toNat = m from by omega]; exact hP4)
        have PF3 := HPX.out.later b3
        have E4 : Eight T4 := by obtain ⟨_, h, -⟩ := HM4.out; exact h.pt.e
        have HO4 : Hid (others c T4.colors ≤ n) := by
          obtain ⟨C3, h4, -⟩ := hP4
          exact Nat.le_trans (deep_others HD3.out h4 (fun x hx => List.mem_append_left _ hx)) HO3.out
        obtain ⟨q0, q1, q2, q3, q4, q5, q6, q7, q8, q9, q10, q11, q12, q13, q14, q15, rfl⟩ := eight_trD E4
        have HA3 : Hid _ := PF3.arr
        have HPN : Hid (PF w (set16 w3 w.heap.size q0 q1 q2 q3 q4 q5 q6 q7 q8 q9 q10 q11 q12 q13 q14 q15) (.slice ao 8 co) (.slice aw nw cw) (.slice ab nb cb) (.slice sa ns sc) (trD q0 q1 q2 q3 q4 q5 q6 q7 q8 q9 q10 q11 q12 q13 q14 q15) (.slice (some ⟨kg, ko, none⟩) L kc) (kidsOf H (k : Int))) := PF3.turn (set16_below q0 q1 q2 q3 q4 q5 q6 q7 q8 q9 q10 q11 q12 q13 q14 q15 PF3.bel (Nat.le_refl _)) (fun i hi => set16_other _ _ q0 q1 q2 q3 q4 q5 q6 q7 q8 q9 q10 q11 q12 q13 q14 q15 i hi) (set16_arr PF3.arr HE3.out q0 q1 q2 q3 q4 q5 q6 q7 q8 q9 q10 q11 q12 q13 q14 q15)
        rw [trD_v]
        clear PF3 HPX b3 hP4 CI E4
        go_wp2_with (refine wpList_store16 rfl rfl HA3.out HE3.out ?_)
        go_roundw
        case rel => exact ⟨j + 1, trD q0 q1 q2 q3 q4 q5 q6 q7 q8 q9 q10 q11 q12 q13 q14 q15, by go_num, by omega, HPN, HM4, HO4⟩
        case measure => simp [intOf]; omega
      · have hLj : L ≤ j := by omega
        have HFIN : Hid (Painted d c H T0 R C M k T2) := midst_end HM.out (by rw [HL.out]; exact hLj)
        have E2 : Eight T2 := by obtain ⟨_, h, -⟩ := HM.out; exact h.pt.e
        obtain ⟨p0, p1, p2, p3, p4, p5, p6, p7, p8, p9, p10, p11, p12, p13, p14, p15, rfl⟩ := eight_trD E2
        have HA5 : Hid _ := HP.out.arr
        have HR5 : Hid _ := HP.out.res
        have HZ5 : Hid (Eight (trD 0 0 0 0 0 0 0 0 0 0 0 0 0 0 0 0)) := ⟨rfl, rfl⟩
        obtain ⟨f0_, f1_, f2_, f3_, f4_, f5_, f6_, f7_, f8_, f9_, f10_, f11_, f12_, f13_, f14_, f15_⟩ := (set16_arr HP.out.res HZ5.out p0 p1 p2 p3 p4 p5 p6 p7 p8 p9 p10 p11 p12 p13 p14 p15).all
        have HB : Hid (Below w.heap.size w (set16 wr (w.heap.size + 2) p0 p1 p2 p3 p4 p5 p6 p7 p8 p9 p10 p11 p12 p13 p14 p15)) := set16_below p0 p1 p2 p3 p4 p5 p6 p7 p8 p9 p10 p11 p12 p13 p14 p15 HP.out.bel (by omega)
        clear HP HM HO E2
        go_wp2_with (first | (refine wpList_load16 rfl HA5.out ?_) | (refine wpList_store16 rfl rfl HR5.out HZ5.out ?_))
        exact bodyPost_ret (v := .agg #[.int .i64 p0, .int .i64 p1, .int .i64 p2, .int .i64 p3, .int .i64 p4, .int .i64 p5, .int .i64 p6, .int .i64 p7, .int .i64 p8, .int .i64 p9, .int .i64 p10, .int .i64 p11, .int .i64 p12, .int .i64 p13, .int .i64 p14, .int .i64 p15]) (by simp [results, Try.results99, go_sem, *]) rfl ⟨_, rfl, HFIN.out, HB.out⟩

end Go.Proofs.Ytjhceoejblmihaa
