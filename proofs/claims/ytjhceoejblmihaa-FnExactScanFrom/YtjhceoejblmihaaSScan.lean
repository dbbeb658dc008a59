/- What spec.ScanFrom makes. -/
import Derived.Test.YtjhceoejblmihaaBlackWalks
import Derived.Test.YtjhceoejblmihaaTrialOk
import Derived.Test.YtjhceoejblmihaaScanMath
import Derived.Laws.AppendOwnNone
namespace Go.Proofs.Ytjhceoejblmihaa
open Go.RowKit
set_option linter.unusedVariables false
set_option maxRecDepth 100000

/-- 'append(l, m...)', l a row of one's own: where the new one lies. -/
theorem wpList_appendM {w : World} {ops : Array Oper} {rest : List Oper} {o : Oper} {a : Act} {Q : Exit → Act → World → Prop} (hgd : o.guard = none) (s x : Operand)
    (ho : o.op = .call { callee := .builtin .append, args := #[s, x], argTypes := #[24, 24] }) (B : Nat) (v : Value) (P : List Int) (hs : a.eval s = v) (hown : ownI w B v P)
    (ka : Option Addr) (kc n : Nat) (Y : List Int) (hn : n = Y.length) (hx : a.eval x = .slice ka n kc) (C : Nat) (hk : ownI w C (.slice ka n kc) Y) (hlen : P.length + Y.length ≤ 16777216) (hB : B ≤ w.heap.size)
    (h : ∀ v' w', ownI w' B v' (P ++ Y) → w.heap.size ≤ w'.heap.size → Hid (∀ i, i < w.heap.size → v.ownBlock ≠ some i → w'.heap[i]? = w.heap[i]?) → Hid (∀ C w0, Below C w0 w → C ≤ B → Below C w0 w') → wpList Try.prog ops Q rest (a.put o.dst v') w') : wpList Try.prog ops Q (o :: rest) a w := by
  obtain ⟨i0, hi, hz0, hz1, hz2⟩ := info_parts infoI
  have hlt := World.ownsRow.lt hown
  subst hn
  rcases ownI_form hk with ⟨h1, rfl⟩ | ⟨g, cap, h1, -, -, -, -, HC⟩
  · simp only [Value.slice.injEq] at h1
    obtain ⟨rfl, -, rfl⟩ := h1
    refine wpList_append_own_none hgd s x 24 ho B 3 i0 1 Try.underlying24 hi v P.length (P.map intV) hs hown hx ?_
    exact h v w (by rw [List.append_nil]; exact hown) (Nat.le_refl _) (fun _ _ _ => rfl) (fun _ _ hb _ => hb)
  · simp only [Value.slice.injEq] at h1
    obtain ⟨rfl, -, rfl⟩ := h1
    refine wpList_append_own_at w hgd s x 24 ho B 3 i0 (.int .i64 0) 1 8 Try.underlying24 hi hz0 hz1 hz2 rfl (by decide) v P.length (P.map intV) hs hown ⟨g, 0, none⟩ Y.length kc (Y.map intV) hx (by simp) ?_ ?_ ?_ ?_ hB ?_
    · intro j u hj
      have hj2 : j < Y.length := by
        have := (List.getElem?_eq_some_iff.1 hj).1
        simpa using this
      rw [List.getElem?_map, List.getElem?_eq_getElem hj2] at hj
      injection hj with hj
      subst hj
      have := (HC.out j hj2).1
      rw [show Addr.add ⟨g, 0, none⟩ j = ⟨g, j, none⟩ from by cases j <;> simp [Addr.add]]
      exact this
    · intro u hu
      obtain ⟨z, -, rfl⟩ := List.mem_map.1 hu
      rfl
    · unfold maxLen; omega
    · omega
    · intro v' w' hown' hgrow _ hat
      refine h v' w' ?_ hgrow.size (fun i hi hne => hgrow.block i hi (fun e => hne e.symm)) (fun C w0 hb hC => ?_)
      · unfold ownI
        rw [List.length_append, List.map_append]
        exact hown'
      · exact ⟨hgrow.os.trans hb.os, hgrow.tape.trans hb.tape, hgrow.output.trans hb.output, Nat.le_trans hb.size hgrow.size, fun k hk => (hgrow.block k (by have := hb.size; omega) (fun e => by have := (hlt k e.symm).1; omega)).trans (hb.block k hk)⟩

/-- How many of the eight colors in a block are gray. -/
def graysAt (X : World) (gb : Nat) : Nat := ((List.range 8).filter fun i => match X.cell? ⟨gb, i, none⟩ with | some (.int _ q) => decide (q = 1) | _ => false).length
theorem graysAt_is {W wr : World} {B ga gb cc d : Nat} {T : TrialD} {vq : Value} {todo : List Int} (h : BI W wr B ga gb cc d T vq todo) : graysAt wr gb = colored 1 T.colors := by
  obtain ⟨l1, l2⟩ := h.eight
  unfold graysAt colored
  have h1 : ((List.range 8).filter fun i => match wr.cell? ⟨gb, i, none⟩ with | some (.int _ q) => decide (q = 1) | _ => false) = (List.range 8).filter fun i => decide (T.colors.getD i 0 = 1) := by
    refine List.filter_congr (fun i hi => ?_)
    rw [(bi_cells h i (List.mem_range.1 hi)).2.2.1]
  rw [h1]
  obtain ⟨ys, hys⟩ : ∃ ys, T.colors = ys := ⟨_, rfl⟩
  rw [hys] at l2 ⊢
  match ys, l2 with
  | [a0, a1, a2, a3, a4, a5, a6, a7], _ =>
    simp only [List.range, List.range.loop, List.countP_eq_length_filter]
    by_cases e0 : a0 = 1 <;> by_cases e1 : a1 = 1 <;> by_cases e2 : a2 = 1 <;> by_cases e3 : a3 = 1 <;> by_cases e4 : a4 = 1 <;> by_cases e5 : a5 = 1 <;> by_cases e6 : a6 = 1 <;> by_cases e7 : a7 = 1 <;> simp [List.filter, List.getD, e0, e1, e2, e3, e4, e5, e6, e7]
/-- The variable's block is written over with what it holds. -/
theorem bi_same {W wr : World} {B ga gb c d gx : Nat} {T : TrialD} {vq : Value} {todo : List Int} {x0 x1 : Value} (h : BI W wr B ga gb c d T vq todo) (ht : Two wr gx x0 x1) (hB : B ≤ gx) (hga : gx ≠ ga) (hgb : gx ≠ gb) (hl : gx < W.heap.size) : BI W (setTwo wr gx x0 x1) B ga gb c d T vq todo := by
  have e : ∀ g, (setTwo wr gx x0 x1).heap[g]? = wr.heap[g]? := fun g => by
    by_cases hg : g = gx
    · subst hg
      have h1 := heap_setCell_same wr g 0 _ _ x0 ht
      have h2 := heap_setCell_same _ g 1 _ _ x1 h1
      have h3 : (setTwo wr g x0 x1).heap[g]? = some (.cells #[x0, x1] 30 (0, 0)) := h2
      have ht' : wr.heap[g]? = some (.cells #[x0, x1] 30 (0, 0)) := ht
      rw [h3, ht']
    · exact setTwo_other _ _ _ _ g hg
  have hb : Below B W (setTwo wr gx x0 x1) := by
    unfold setTwo
    exact (h.bel.setCell (p := ⟨gx, 0, none⟩) hB _).setCell (p := ⟨gx, 1, none⟩) hB _
  exact ⟨hb, fun g h1 h2 h3 => (e g).trans (h.oth g h1 h2 h3), ownI_same h.x (fun g _ => e g), ownI_same h.y (fun g _ => e g), h.ne, h.la, h.lb, h.hB, ownI_same h.q (fun g _ => e g)⟩

theorem sScan_no (v u : Value) (H : HeapD) (T : TrialD) (slot : Int) (w : World) (h : RdH w v H) (ht : RdT w u T) (hs : SmallH H) (hst : SmallT T) (hno : ¬ OkT H T slot) :
    Calls Try.prog 27 #[v, u, .int .i64 slot] w fun e w' => ∃ s : TSh, e = .returned s.v ∧ TM w' w.heap.size s T ∧ Below w.heap.size w w' := by
  have HRH : Hid (∀ X, Below w.heap.size w X → RdH X v H) := fun X hX => rdH_later h hX
  have HRT : Hid (∀ X, Below w.heap.size w X → RdT X u T) := fun X hX => rdT_later ht hX
  obtain ⟨ao, co, aw, cw, ab, cb, sa, sc, rfl, -⟩ := h
  obtain ⟨xa, xc, ya, yc, rfl, -, ri⟩ := ht
  obtain ⟨W, hW⟩ : ∃ W, W = ((w.alloc (.cells #[.slice ao H.objs.length co, .slice aw H.weaks.length cw, .slice ab H.buffer.length cb, .slice sa H.sites.length sc] 35)).alloc (.cells #[.slice xa T.counts.length xc, .slice ya T.colors.length yc] 30)).alloc (.cells #[.slice none 0 0, .slice none 0 0] 30) := ⟨_, rfl⟩
  have BW : Below w.heap.size w W := by rw [hW]; exact (((Below.refl _ _).alloc (Nat.le_refl _) _).alloc (by simp) _).alloc (by simp; omega) _
  have hWs : W.heap.size = w.heap.size + 3 := by rw [hW]; simp
  have q0 : Four W w.heap.size (.slice ao H.objs.length co) (.slice aw H.weaks.length cw) (.slice ab H.buffer.length cb) (.slice sa H.sites.length sc) := by
    have f1 := Four.new w (.slice ao H.objs.length co) (.slice aw H.weaks.length cw) (.slice ab H.buffer.length cb) (.slice sa H.sites.length sc)
    exact Eq.trans (by rw [hW, Below.heap_alloc _ _ _ (by simp; omega), Below.heap_alloc _ _ _ (by simp)]) f1
  have q1 : Two W (w.heap.size + 1) (.slice xa T.counts.length xc) (.slice ya T.colors.length yc) := by
    have f1 := Two.new (w.alloc (.cells #[.slice ao H.objs.length co, .slice aw H.weaks.length cw, .slice ab H.buffer.length cb, .slice sa H.sites.length sc] 35)) (.slice xa T.counts.length xc) (.slice ya T.colors.length yc)
    rw [show (w.alloc (.cells #[.slice ao H.objs.length co, .slice aw H.weaks.length cw, .slice ab H.buffer.length cb, .slice sa H.sites.length sc] 35)).heap.size = w.heap.size + 1 from by simp] at f1
    exact Eq.trans (by rw [hW, Below.heap_alloc _ _ _ (by simp)]) f1
  have q2 : Two W (w.heap.size + 2) (.slice none 0 0) (.slice none 0 0) := by
    have f1 := Two.new ((w.alloc (.cells #[.slice ao H.objs.length co, .slice aw H.weaks.length cw, .slice ab H.buffer.length cb, .slice sa H.sites.length sc] 35)).alloc (.cells #[.slice xa T.counts.length xc, .slice ya T.colors.length yc] 30)) (.slice none 0 0) (.slice none 0 0)
    rw [show ((w.alloc (.cells #[.slice ao H.objs.length co, .slice aw H.weaks.length cw, .slice ab H.buffer.length cb, .slice sa H.sites.length sc] 35)).alloc (.cells #[.slice xa T.counts.length xc, .slice ya T.colors.length yc] 30)).heap.size = w.heap.size + 2 from by simp] at f1
    rw [hW]
    exact f1
  have HQ : Hid (∀ X, Below W.heap.size W X → Four X w.heap.size (.slice ao H.objs.length co) (.slice aw H.weaks.length cw) (.slice ab H.buffer.length cb) (.slice sa H.sites.length sc) ∧ Two X (w.heap.size + 1) (.slice xa T.counts.length xc) (.slice ya T.colors.length yc) ∧ Two X (w.heap.size + 2) (.slice none 0 0) (.slice none 0 0)) :=
    fun X hX => ⟨q0.same (hX.block _ (by omega)), q1.same (hX.block _ (by omega)), q2.same (hX.block _ (by omega))⟩
  have HBW : Hid (Below w.heap.size w W) := BW
  have HWs : Hid (W.heap.size = w.heap.size + 3) := hWs
  have CC : Hid (∀ _ : Unit, _) := fun (_ : Unit) => sCopyT_calls _ T W (HRT.out W BW) hst
  obtain ⟨b, hb⟩ : ∃ b : Bool, b = true ↔ OkT H T slot := by
    by_cases h : OkT H T slot
    · exact ⟨true, by simp [h]⟩
    · exact ⟨false, by simp [h]⟩
  have CO : Hid (∀ X, Below w.heap.size w X → _) := fun X hX => sOkT_calls _ _ H T slot X (HRH.out X hX) (HRT.out X hX) hs hst b hb
  have HRI : Hid (∀ X, Below w.heap.size w X → RdI X ya T.colors) := fun X hX => rdI_later ri hX
  have HBO : Hid (b = true ↔ OkT H T slot) := hb
  obtain rfl : b = false := by cases b with | false => rfl | true => exact absurd (hb.1 rfl) hno
  have hlc := hst.colors
  clear q0 q1 q2 BW hWs HRH HRT hs hst hno ri hb
  go_enter Try.func27, Try.ntmps27
  go_wp2_with fail
  rw [← hW]
  clear hW
  refine (CC.out ()).mono ?_
  rintro e w1 ⟨s, rfl, M1, b1⟩
  obtain ⟨V, hV⟩ : ∃ V, V = w1.alloc (.cells #[.slice s.a s.n s.c, .slice s.b s.m s.d] 30) := ⟨_, rfl⟩
  have BV : Below w1.heap.size w1 V := by rw [hV]; exact (Below.refl _ _).alloc (Nat.le_refl _) _
  have HTV : Hid (TM V W.heap.size s T) := M1.later BV
  have HXV : Hid (Two V w1.heap.size (.slice s.a s.n s.c) (.slice s.b s.m s.d)) := by rw [hV]; exact Two.new w1 _ _
  have HBV : Hid (Below W.heap.size W V) := b1.trans (BV.mono b1.size)
  have HW1 : Hid (W.heap.size ≤ w1.heap.size) := b1.size
  have HVV : Hid (Below w.heap.size w V) := HBW.out.trans (HBV.out.mono HBW.out.size)
  obtain ⟨F1, X1, X2⟩ := HQ.out w1 b1
  have f0 : w1.cell? ⟨w.heap.size, 0, none⟩ = some (.slice ao H.objs.length co) := F1.cell 0
  have f1 : w1.cell? ⟨w.heap.size, 1, none⟩ = some (.slice aw H.weaks.length cw) := F1.cell 1
  have f2 : w1.cell? ⟨w.heap.size, 2, none⟩ = some (.slice ab H.buffer.length cb) := F1.cell 2
  have f3 : w1.cell? ⟨w.heap.size, 3, none⟩ = some (.slice sa H.sites.length sc) := F1.cell 3
  have t0 : w1.cell? ⟨w.heap.size + 1, 0, none⟩ = some (.slice xa T.counts.length xc) := X1.cell 0
  have t1 : w1.cell? ⟨w.heap.size + 1, 1, none⟩ = some (.slice ya T.colors.length yc) := X1.cell 1
  have g0 : w.heap.size < w1.heap.size := F1.lt
  have g1 : w.heap.size + 1 < w1.heap.size := X1.lt
  have n0 : ¬ w.heap.size = w1.heap.size := by omega
  have n1 : ¬ w.heap.size + 1 = w1.heap.size := by omega
  have HC2 : Hid (Calls _ _ _ V _) := CO.out V HVV.out
  rw [show s.v = .agg #[.slice s.a s.n s.c, .slice s.b s.m s.d] from rfl]
  clear CC CO M1 b1 BV F1 X1 X2
  go_wp2_with fail
  rw [← hV]
  clear hV
  refine HC2.out.mono ?_
  rintro e w2 ⟨rfl, b2⟩
  have HB2 : Hid (Below W.heap.size W w2) := HBV.out.trans (b2.mono HBV.out.size)
  have HT2 : Hid (TM w2 W.heap.size s T) := HTV.out.later b2
  have X2 : Two w2 w1.heap.size (.slice s.a s.n s.c) (.slice s.b s.m s.d) := HXV.out.later b2 HXV.out.lt
  obtain ⟨-, T1, R1⟩ := HQ.out w2 HB2.out
  have x0 : w2.cell? ⟨w1.heap.size, 0, none⟩ = some (.slice s.a s.n s.c) := X2.cell 0
  have x1 : w2.cell? ⟨w1.heap.size, 1, none⟩ = some (.slice s.b s.m s.d) := X2.cell 1
  have u1 : w2.cell? ⟨w.heap.size + 1, 1, none⟩ = some (.slice ya T.colors.length yc) := T1.cell 1
  have r0 : w2.cell? ⟨w.heap.size + 2, 0, none⟩ = some (.slice none 0 0) := R1.cell 0
  have r1 : w2.cell? ⟨w.heap.size + 2, 1, none⟩ = some (.slice none 0 0) := R1.cell 1
  have z0 := R1.frozen 0
  have z1 := R1.frozen 1
  have HFIN : Hid (TM (setTwo w2 (w.heap.size + 2) (.slice s.a s.n s.c) (.slice s.b s.m s.d)) w.heap.size s T ∧ Below w.heap.size w (setTwo w2 (w.heap.size + 2) (.slice s.a s.n s.c) (.slice s.b s.m s.d))) := by
    have e3 := HWs.out
    refine ⟨(HT2.out.same (fun g h1 h2 => setTwo_other _ _ _ _ g (by omega))).mono (by omega), ?_⟩
    unfold setTwo
    exact ((HBW.out.trans (HB2.out.mono (by omega))).setCell (by simp) _).setCell (by simp) _
  clear f0 f1 f2 f3 t0 t1 g0 g1 n0 n1 T1 R1 X2 b2
  go_wp2
  exact bodyPost_ret (v := .agg #[.slice s.a s.n s.c, .slice s.b s.m s.d]) (by simp [results, Try.results27, go_sem, *]) rfl ⟨s, rfl, HFIN.out⟩

set_option maxHeartbeats 16000000 in
theorem sScan_yes (v u : Value) (H : HeapD) (T : TrialD) (k : Nat) (w : World) (h : RdH w v H) (ht : RdT w u T) (hs : SmallH H) (hst : SmallT T) (hf : ∀ o ∈ H.objs, ∀ z ∈ o.field, in64 z) (hok : OkT H T (k : Int)) :
    Calls Try.prog 27 #[v, u, .int .i64 (k : Int)] w fun e w' => ∃ s : TSh, e = .returned s.v ∧ TM w' w.heap.size s (scanT H T (k : Int)) ∧ Below w.heap.size w w' := by
  have HRH : Hid (∀ X, Below w.heap.size w X → RdH X v H) := fun X hX => rdH_later h hX
  have HRT : Hid (∀ X, Below w.heap.size w X → RdT X u T) := fun X hX => rdT_later ht hX
  obtain ⟨ao, co, aw, cw, ab, cb, sa, sc, rfl, -⟩ := h
  obtain ⟨xa, xc, ya, yc, rfl, -, ri⟩ := ht
  obtain ⟨W, hW⟩ : ∃ W, W = ((w.alloc (.cells #[.slice ao H.objs.length co, .slice aw H.weaks.length cw, .slice ab H.buffer.length cb, .slice sa H.sites.length sc] 35)).alloc (.cells #[.slice xa T.counts.length xc, .slice ya T.colors.length yc] 30)).alloc (.cells #[.slice none 0 0, .slice none 0 0] 30) := ⟨_, rfl⟩
  have BW : Below w.heap.size w W := by rw [hW]; exact (((Below.refl _ _).alloc (Nat.le_refl _) _).alloc (by simp) _).alloc (by simp; omega) _
  have hWs : W.heap.size = w.heap.size + 3 := by rw [hW]; simp
  have q0 : Four W w.heap.size (.slice ao H.objs.length co) (.slice aw H.weaks.length cw) (.slice ab H.buffer.length cb) (.slice sa H.sites.length sc) := by
    have f1 := Four.new w (.slice ao H.objs.length co) (.slice aw H.weaks.length cw) (.slice ab H.buffer.length cb) (.slice sa H.sites.length sc)
    exact Eq.trans (by rw [hW, Below.heap_alloc _ _ _ (by simp; omega), Below.heap_alloc _ _ _ (by simp)]) f1
  have q1 : Two W (w.heap.size + 1) (.slice xa T.counts.length xc) (.slice ya T.colors.length yc) := by
    have f1 := Two.new (w.alloc (.cells #[.slice ao H.objs.length co, .slice aw H.weaks.length cw, .slice ab H.buffer.length cb, .slice sa H.sites.length sc] 35)) (.slice xa T.counts.length xc) (.slice ya T.colors.length yc)
    rw [show (w.alloc (.cells #[.slice ao H.objs.length co, .slice aw H.weaks.length cw, .slice ab H.buffer.length cb, .slice sa H.sites.length sc] 35)).heap.size = w.heap.size + 1 from by simp] at f1
    exact Eq.trans (by rw [hW, Below.heap_alloc _ _ _ (by simp)]) f1
  have q2 : Two W (w.heap.size + 2) (.slice none 0 0) (.slice none 0 0) := by
    have f1 := Two.new ((w.alloc (.cells #[.slice ao H.objs.length co, .slice aw H.weaks.length cw, .slice ab H.buffer.length cb, .slice sa H.sites.length sc] 35)).alloc (.cells #[.slice xa T.counts.length xc, .slice ya T.colors.length yc] 30)) (.slice none 0 0) (.slice none 0 0)
    rw [show ((w.alloc (.cells #[.slice ao H.objs.length co, .slice aw H.weaks.length cw, .slice ab H.buffer.length cb, .slice sa H.sites.length sc] 35)).alloc (.cells #[.slice xa T.counts.length xc, .slice ya T.colors.length yc] 30)).heap.size = w.heap.size + 2 from by simp] at f1
    rw [hW]
    exact f1
  have HQ : Hid (∀ X, Below W.heap.size W X → Four X w.heap.size (.slice ao H.objs.length co) (.slice aw H.weaks.length cw) (.slice ab H.buffer.length cb) (.slice sa H.sites.length sc) ∧ Two X (w.heap.size + 1) (.slice xa T.counts.length xc) (.slice ya T.colors.length yc) ∧ Two X (w.heap.size + 2) (.slice none 0 0) (.slice none 0 0)) :=
    fun X hX => ⟨q0.same (hX.block _ (by omega)), q1.same (hX.block _ (by omega)), q2.same (hX.block _ (by omega))⟩
  have HBW : Hid (Below w.heap.size w W) := BW
  have HWs : Hid (W.heap.size = w.heap.size + 3) := hWs
  have CC : Hid (∀ _ : Unit, _) := fun (_ : Unit) => sCopyT_calls _ T W (HRT.out W BW) hst
  obtain ⟨b, hb⟩ : ∃ b : Bool, b = true ↔ OkT H T (k : Int) := by
    by_cases h : OkT H T (k : Int)
    · exact ⟨true, by simp [h]⟩
    · exact ⟨false, by simp [h]⟩
  have CO : Hid (∀ X, Below w.heap.size w X → _) := fun X hX => sOkT_calls _ _ H T (k : Int) X (HRH.out X hX) (HRT.out X hX) hs hst b hb
  have HRI : Hid (∀ X, Below w.heap.size w X → RdI X ya T.colors) := fun X hX => rdI_later ri hX
  have HBO : Hid (b = true ↔ OkT H T (k : Int)) := hb
  have HS : Hid (SmallH H) := hs
  have HF : Hid (∀ o ∈ H.objs, ∀ z ∈ o.field, in64 z) := hf
  obtain rfl : b = true := hb.2 hok
  have HOK : Hid (OkT H T (k : Int)) := hok
  have HR : Hid (∀ X, Below w.heap.size w X → RdH X _ H) := HRH.out
  have hlc := hst.colors
  clear q0 q1 q2 BW hWs HRH HRT hs hst ri hb hok hf
  go_enter Try.func27, Try.ntmps27
  go_wp2_with fail
  rw [← hW]
  clear hW
  refine (CC.out ()).mono ?_
  rintro e w1 ⟨s, rfl, M1, b1⟩
  obtain ⟨V, hV⟩ : ∃ V, V = w1.alloc (.cells #[.slice s.a s.n s.c, .slice s.b s.m s.d] 30) := ⟨_, rfl⟩
  have BV : Below w1.heap.size w1 V := by rw [hV]; exact (Below.refl _ _).alloc (Nat.le_refl _) _
  have HTV : Hid (TM V W.heap.size s T) := M1.later BV
  have HXV : Hid (Two V w1.heap.size (.slice s.a s.n s.c) (.slice s.b s.m s.d)) := by rw [hV]; exact Two.new w1 _ _
  have HBV : Hid (Below W.heap.size W V) := b1.trans (BV.mono b1.size)
  have HW1 : Hid (W.heap.size ≤ w1.heap.size) := b1.size
  have HVV : Hid (Below w.heap.size w V) := HBW.out.trans (HBV.out.mono HBW.out.size)
  obtain ⟨F1, X1, X2⟩ := HQ.out w1 b1
  have f0 : w1.cell? ⟨w.heap.size, 0, none⟩ = some (.slice ao H.objs.length co) := F1.cell 0
  have f1 : w1.cell? ⟨w.heap.size, 1, none⟩ = some (.slice aw H.weaks.length cw) := F1.cell 1
  have f2 : w1.cell? ⟨w.heap.size, 2, none⟩ = some (.slice ab H.buffer.length cb) := F1.cell 2
  have f3 : w1.cell? ⟨w.heap.size, 3, none⟩ = some (.slice sa H.sites.length sc) := F1.cell 3
  have t0 : w1.cell? ⟨w.heap.size + 1, 0, none⟩ = some (.slice xa T.counts.length xc) := X1.cell 0
  have t1 : w1.cell? ⟨w.heap.size + 1, 1, none⟩ = some (.slice ya T.colors.length yc) := X1.cell 1
  have g0 : w.heap.size < w1.heap.size := F1.lt
  have g1 : w.heap.size + 1 < w1.heap.size := X1.lt
  have n0 : ¬ w.heap.size = w1.heap.size := by omega
  have n1 : ¬ w.heap.size + 1 = w1.heap.size := by omega
  have HC2 : Hid (Calls _ _ _ V _) := CO.out V HVV.out
  rw [show s.v = .agg #[.slice s.a s.n s.c, .slice s.b s.m s.d] from rfl]
  clear CC CO M1 b1 BV F1 X1 X2
  go_wp2_with fail
  rw [← hV]
  clear hV
  refine HC2.out.mono ?_
  rintro e w2 ⟨rfl, b2⟩
  have HB2 : Hid (Below W.heap.size W w2) := HBV.out.trans (b2.mono HBV.out.size)
  have HT2 : Hid (TM w2 W.heap.size s T) := HTV.out.later b2
  have X2 : Two w2 w1.heap.size (.slice s.a s.n s.c) (.slice s.b s.m s.d) := HXV.out.later b2 HXV.out.lt
  obtain ⟨-, T1, R1⟩ := HQ.out w2 HB2.out
  have x0 : w2.cell? ⟨w1.heap.size, 0, none⟩ = some (.slice s.a s.n s.c) := X2.cell 0
  have x1 : w2.cell? ⟨w1.heap.size, 1, none⟩ = some (.slice s.b s.m s.d) := X2.cell 1
  have u1 : w2.cell? ⟨w.heap.size + 1, 1, none⟩ = some (.slice ya T.colors.length yc) := T1.cell 1
  have r0 : w2.cell? ⟨w.heap.size + 2, 0, none⟩ = some (.slice none 0 0) := R1.cell 0
  have r1 : w2.cell? ⟨w.heap.size + 2, 1, none⟩ = some (.slice none 0 0) := R1.cell 1
  have z0 := R1.frozen 0
  have z1 := R1.frozen 1
  have HBs : Hid (W.heap.size = w.heap.size + 3) := HWs.out
  have H8 : Hid (H.objs.length = 8) := HOK.out.objs
  have hk : k < 8 := by have := HOK.out.hi; omega
  obtain ⟨sn, sm⟩ := HT2.out.lens
  rw [HOK.out.counts] at sn
  rw [HOK.out.colors] at sm
  have form : ∀ {a : Option Addr} {c : Nat} {zs : List Int}, ownI w2 W.heap.size (.slice a 8 c) zs → ∃ g, a = some ⟨g, 0, none⟩ := fun ho => by
    rcases ownI_form ho with ⟨h1, -⟩ | ⟨g, cap, h1, -⟩
    · simp at h1
    · simp only [Value.slice.injEq] at h1; exact ⟨g, h1.1⟩
  obtain ⟨sa', sn', c, sb', sm', d⟩ := s
  simp only at sn sm
  subst sn sm
  obtain ⟨ga, rfl⟩ := form HT2.out.x
  obtain ⟨gb, rfl⟩ := form HT2.out.y
  have hne : ga ≠ gb := fun e => HT2.out.dif ga rfl (by show some gb = some ga; rw [e])
  have la : ga < w2.heap.size := (ownI_lt HT2.out.x ga rfl).2
  have lb : gb < w2.heap.size := (ownI_lt HT2.out.y gb rfl).2
  have lga : W.heap.size ≤ ga := (ownI_lt HT2.out.x ga rfl).1
  have lgb : W.heap.size ≤ gb := (ownI_lt HT2.out.y gb rfl).1
  have b1 : BI w2 w2 W.heap.size ga gb c d T (.slice none 0 0) [] := ⟨Below.refl _ _, fun _ _ _ _ => rfl, HT2.out.x, HT2.out.y, hne, la, lb, HB2.out.size, ownI_nil _ _⟩
  obtain ⟨-, T1', -⟩ := HQ.out w2 HB2.out
  have hgx : w1.heap.size ≠ ga ∧ w1.heap.size ≠ gb := by
    have xk : w2.heap[w1.heap.size]? = some (.cells #[.slice (some ⟨ga, 0, none⟩) 8 c, .slice (some ⟨gb, 0, none⟩) 8 d] 30 (0, 0)) := X2
    obtain ⟨cu1, k1⟩ := row_kind HT2.out.x ga rfl
    obtain ⟨cu2, k2⟩ := row_kind HT2.out.y gb rfl
    exact ⟨fun e => kind_ne xk k1 (by decide) e, fun e => kind_ne xk k2 (by decide) e⟩
  have HQ2 : Hid (∀ X, (∀ g, g < w2.heap.size → g ≠ ga → g ≠ gb → X.heap[g]? = w2.heap[g]?) → Four X w.heap.size (.slice ao H.objs.length co) (.slice aw H.weaks.length cw) (.slice ab H.buffer.length cb) (.slice sa H.sites.length sc) ∧ Two X w1.heap.size (.slice (some ⟨ga, 0, none⟩) 8 c) (.slice (some ⟨gb, 0, none⟩) 8 d) ∧ Two X (w.heap.size + 2) (.slice none 0 0) (.slice none 0 0)) := by
    have e3 := HBs.out
    have e4 := HB2.out.size
    obtain ⟨p0, -, p2⟩ := HQ.out w2 HB2.out
    exact fun X hX => ⟨p0.same (hX _ (by omega) (by omega) (by omega)), X2.same (hX _ X2.lt hgx.1 hgx.2), p2.same (hX _ (by omega) (by omega) (by omega))⟩
  have HB0 : Hid (BI w2 (w2.alloc (.cells #[.int .i64 (k : Int)] 3)) W.heap.size ga gb c d T (.slice (some ⟨w2.heap.size, 0, none⟩) 1 1) [(k : Int)]) := by
    have b3 := bi_later b1 ((Below.refl _ _).alloc (Nat.le_refl _) (.cells #[.int .i64 (k : Int)] 3))
    have b4 := ownI_one w2 w2.heap.size (k : Int) (Nat.le_refl _)
    exact ⟨b3.bel, b3.oth, b3.x, b3.y, b3.ne, b3.la, b3.lb, b3.hB, b4⟩
  have HSL : Hid (Slots [(k : Int)]) := fun z hz => by rw [List.mem_singleton.1 hz]; omega
  have HRR : Hid (scanT H T (k : Int) = scanAll H T [(k : Int)]) := rfl
  have HM0 : Hid (nu (T, [(k : Int)]) ≤ 8388617) := by
    have h1 := colored_le 1 T.colors
    rw [HOK.out.colors] at h1
    show colored 1 T.colors * 1048577 + 1 ≤ 8388617
    omega
  have HBW2 : Hid (Below w.heap.size w w2) := HBW.out.trans (HB2.out.mono HBW.out.size)
  have h8c := HOK.out.colors
  have h8o := HOK.out.objs
  rw [h8o] at HQ2 HR
  rw [h8c, h8o]
  clear HQ HBW
  have HQ := HQ2
  have HBW := HBW2
  obtain ⟨R, hRG⟩ : ∃ R, scanT H T (k : Int) = R := ⟨_, rfl⟩
  have HRG : Hid (scanT H T (k : Int) = R) := hRG
  rw [hRG] at HRR
  clear hRG
  have HGX : Hid (W.heap.size ≤ w1.heap.size ∧ w1.heap.size ≠ ga ∧ w1.heap.size ≠ gb ∧ w1.heap.size < w2.heap.size) := ⟨HW1.out, hgx.1, hgx.2, X2.lt⟩
  obtain ⟨gx, hgx0⟩ : ∃ gx, w1.heap.size = gx := ⟨_, rfl⟩
  rw [hgx0] at HQ x0 x1 HGX ⊢
  obtain ⟨B, hBB⟩ : ∃ B, W.heap.size = B := ⟨_, rfl⟩
  rw [hBB] at HB0 HBs HGX
  clear f0 f1 f2 f3 t0 t1 g0 g1 n0 n1 T1 R1 X2 b2 HQ2 HBW2 T1' hgx b1 form HT2 HTV HXV HC2 hgx0 h8c h8o HRI la lb lga lgb hne HBV HW1 HVV HWs hBB HB2
  go_wp2
  go_loopw [8] (fun vq wr => ∃ (T' : TrialD) (todo : List Int) (qa : Option Addr) (qc : Nat), vq = .slice qa todo.length qc ∧ Hid (BI w2 wr B ga gb c d T' vq todo) ∧ Hid (Slots todo) ∧ Hid (nu (T', todo) ≤ 8388617) ∧ Hid (R = scanAll H T' todo)) (fun vq wr => lenV vq + 1048577 * graysAt wr gb)
  case atStart => exact ⟨_, [(k : Int)], _, 1, rfl, HB0, HSL, HM0, HRR⟩
  case round =>
    obtain ⟨T', todo, qa, qc, rfl, HI, HT, HMU, HRS⟩ := hrel
    obtain ⟨F0, X1, X2⟩ := HQ.out wr HI.out.oth
    rcases List.eq_nil_or_concat todo with rfl | ⟨rest, kz, rfl⟩
    · have HE : Hid (R = T') := by show _ = _; rw [HRS.out, scanAll_nil]
      have x0 : wr.cell? ⟨gx, 0, none⟩ = some (.slice (some ⟨ga, 0, none⟩) 8 c) := X1.cell 0
      have x1 : wr.cell? ⟨gx, 1, none⟩ = some (.slice (some ⟨gb, 0, none⟩) 8 d) := X1.cell 1
      have r0 : wr.cell? ⟨w.heap.size + 2, 0, none⟩ = some (.slice none 0 0) := X2.cell 0
      have r1 : wr.cell? ⟨w.heap.size + 2, 1, none⟩ = some (.slice none 0 0) := X2.cell 1
      have z0 := X2.frozen 0
      have z1 := X2.frozen 1
      have HFIN : Hid (TM (setTwo wr (w.heap.size + 2) (.slice (some ⟨ga, 0, none⟩) 8 c) (.slice (some ⟨gb, 0, none⟩) 8 d)) w.heap.size ⟨some ⟨ga, 0, none⟩, 8, c, some ⟨gb, 0, none⟩, 8, d⟩ R ∧ Below w.heap.size w (setTwo wr (w.heap.size + 2) (.slice (some ⟨ga, 0, none⟩) 8 c) (.slice (some ⟨gb, 0, none⟩) 8 d))) := by
        have e3 := HBs.out
        rw [HE.out]
        refine ⟨⟨ownI_mono (ownI_same HI.out.x (fun g hg => setTwo_other _ _ _ _ g (by have := (ownI_lt HI.out.x g hg).1; omega))) (by omega), ownI_mono (ownI_same HI.out.y (fun g hg => setTwo_other _ _ _ _ g (by have := (ownI_lt HI.out.y g hg).1; omega))) (by omega), fun g h1 h2 => ?_⟩, ?_⟩
        · have e1 : ga = g := by simpa [TSh.x, Value.ownBlock] using h1
          have e2 : gb = g := by simpa [TSh.y, Value.ownBlock] using h2
          exact HI.out.ne (by omega)
        · unfold setTwo
          exact ((HBW.out.trans (HI.out.bel.mono (by omega))).setCell (by simp) _).setCell (by simp) _
      clear F0 X1 X2 HI HRS
      go_wp2
      exact bodyPost_ret (v := .agg #[.slice (some ⟨ga, 0, none⟩) 8 c, .slice (some ⟨gb, 0, none⟩) 8 d]) (by simp [results, Try.results27, go_sem, *]) rfl ⟨⟨some ⟨ga, 0, none⟩, 8, c, some ⟨gb, 0, none⟩, 8, d⟩, rfl, by rw [HRG.out]; exact HFIN.out⟩
    · rw [List.concat_eq_append] at *
      obtain ⟨m, hm⟩ : ∃ m, rest.length = m := ⟨_, rfl⟩
      have hl : (rest ++ [kz]).length = m + 1 := by simp [hm]
      rw [hl] at HI ⊢
      obtain ⟨s, rfl⟩ : ∃ s : Nat, kz = (s : Int) := ⟨kz.toNat, by have := HT.out kz (by simp); omega⟩
      have hs8 : s < 8 := by have := HT.out (s : Int) (by simp); omega
      rcases ownI_form HI.out.q with ⟨h1, -⟩ | ⟨gq, cap, h1, hgq, hgl, hcap, hmax, HC⟩
      · simp at h1
      have e1 : qa = some ⟨gq, 0, none⟩ ∧ qc = cap := by simp only [Value.slice.injEq] at h1; exact ⟨h1.1, h1.2.2⟩
      obtain ⟨rfl, rfl⟩ := e1
      have hcell : wr.cell? ⟨gq, m, none⟩ = some (.int .i64 (s : Int)) := by
        have h2 := (HC.out m (by omega)).1
        rw [List.getElem_append_right (by omega)] at h2
        simpa using h2
      rw [hl] at hcap
      have HMU2 := HMU.out
      have hmb : m ≤ 8388616 := by simp only [nu, List.length_append, List.length_singleton] at HMU2; omega
      have HPOP : Hid (BI w2 wr B ga gb c d T' (.slice (some ⟨gq, 0, none⟩) m qc) rest) := bi_pop HI.out
      have hsl : s < H.objs.length := by have := H8.out; omega
      have HSN : Hid (R = scanAll H (scanS H T' rest (s : Int)).1 (scanS H T' rest (s : Int)).2) := by show _ = _; rw [HRS.out, scanAll_snoc H HS.out T' rest (s : Int) HI.out.eight HT.out]
      have HRO : Hid _ := scanS_ok H HS.out T' rest (s : Int) HI.out.eight HT.out
      have HMS : Hid (graysAt wr gb = colored 1 T'.colors) := graysAt_is HI.out
      have HRSL : Hid (Slots rest) := fun z hz => HT.out z (by simp [hz])
      have HE8 : Hid (Eight T') := HI.out.eight
      have hmeas : ∀ (X : World) (vq2 : Value) (T2 : TrialD) (td : List Int), BI w2 X B ga gb c d T2 vq2 td → lenV vq2 = td.length → nu (T2, td) < nu (T', rest ++ [(s : Int)]) → lenV vq2 + 1048577 * graysAt X gb < m + 1 + 1048577 * graysAt wr gb := fun X vq2 T2 td hb hl2 hlt => by
        rw [graysAt_is hb, HMS.out, hl2]
        simp only [nu, List.length_append, List.length_singleton, hm] at hlt
        omega
      have HMEAS : Hid _ := hmeas
      obtain ⟨ca0, fa0, cb0, fb0⟩ := bi_cells HI.out s hs8
      have x0 : wr.cell? ⟨gx, 0, none⟩ = some (.slice (some ⟨ga, 0, none⟩) 8 c) := X1.cell 0
      have x1 : wr.cell? ⟨gx, 1, none⟩ = some (.slice (some ⟨gb, 0, none⟩) 8 d) := X1.cell 1
      have f0 : wr.cell? ⟨w.heap.size, 0, none⟩ = some (.slice ao 8 co) := F0.cell 0
      have f1 : wr.cell? ⟨w.heap.size, 1, none⟩ = some (.slice aw H.weaks.length cw) := F0.cell 1
      have f2 : wr.cell? ⟨w.heap.size, 2, none⟩ = some (.slice ab H.buffer.length cb) := F0.cell 2
      have f3 : wr.cell? ⟨w.heap.size, 3, none⟩ = some (.slice sa H.sites.length sc) := F0.cell 3
      have HWB : Hid (w2.heap.size ≤ wr.heap.size) := HI.out.bel.size
      have hmc : (m : Int) ≤ (qc : Int) := by omega
      have hb1 : decide ((0 : Int) < (m : Int) + 1) = true := decide_eq_true (by omega)
      have hs8i : (s : Int) < 8 := by omega
      have HLR : Hid (rest.length = m) := hm
      have es : ((s : Int)).toNat = s := by omega
      have HX1 : Hid (Two wr gx (.slice (some ⟨ga, 0, none⟩) 8 c) (.slice (some ⟨gb, 0, none⟩) 8 d)) := X1
      have HDD : Hid (ownI wr B (.slice (some ⟨ga, 0, none⟩) 8 c) T'.counts ∧ ownI wr B (.slice (some ⟨gb, 0, none⟩) 8 d) T'.colors ∧ ga ≠ gb ∧ B ≤ wr.heap.size) := ⟨HI.out.x, HI.out.y, HI.out.ne, Nat.le_trans HI.out.hB HI.out.bel.size⟩
      unfold scanS at HSN HRO
      rw [es] at HSN HRO
      obtain ⟨qcol, hqcol⟩ : ∃ q, T'.colors.getD s 0 = q := ⟨_, rfl⟩
      obtain ⟨qcnt, hqcnt⟩ : ∃ q, T'.counts.getD s 0 = q := ⟨_, rfl⟩
      rw [hqcol] at HSN HRO cb0
      rw [hqcnt] at HSN HRO ca0
      clear F0 X1 X2 HI HRS HC hgl hgq hmax h1 hl HT hqcol hqcnt hm hmeas HMU2
      by_cases hgr : qcol = 1
      · rw [if_neg (by simpa using hgr)] at HSN HRO
        subst hgr
        by_cases hpo : 0 < qcnt
        · rw [if_pos hpo] at HSN HRO
          have CB : Hid (∀ _ : Unit, _) := fun (_ : Unit) => sBlack_calls _ H T' ga gb c d s B wr (fun X hX => HR.out X (HBW.out.trans ((HPOP.out.bel.trans hX).mono (by have := HBs.out; omega)))) HS.out H8.out HF.out HDD.out.1 HDD.out.2.1 HDD.out.2.2.1 HDD.out.2.2.2 hs8
          clear HDD
          go_wp2_with fail
          refine (CB.out ()).mono ?_
          rintro e w3 ⟨rfl, O3, O4, b3, oth3⟩
          have hgxs := HGX.out
          have h2s := HWB.out
          have T3 : Two w3 gx (.slice (some ⟨ga, 0, none⟩) 8 c) (.slice (some ⟨gb, 0, none⟩) 8 d) := HX1.out.same (oth3 gx (by omega) hgxs.2.1 hgxs.2.2.1)
          have HI3 : Hid (BI w2 w3 B ga gb c d (blackT H T' (s : Int)) (.slice (some ⟨gq, 0, none⟩) m qc) rest) := by
            have hp := HPOP.out
            refine ⟨hp.bel.trans b3, fun g h1 h2 h3 => (oth3 g (by omega) h2 h3).trans (hp.oth g h1 h2 h3), O3, O4, hp.ne, hp.la, hp.lb, hp.hB, ownI_same hp.q (fun g hg => ?_)⟩
            have hl2 := (ownI_lt hp.q g hg)
            have := hp.la
            have := hp.lb
            exact oth3 g hl2.2 (by omega) (by omega)
          have HI4 : Hid (BI w2 (setTwo w3 gx (.slice (some ⟨ga, 0, none⟩) 8 c) (.slice (some ⟨gb, 0, none⟩) 8 d)) B ga gb c d (blackT H T' (s : Int)) (.slice (some ⟨gq, 0, none⟩) m qc) rest) := bi_same HI3.out T3 hgxs.1 hgxs.2.1 hgxs.2.2.1 hgxs.2.2.2
          have y0 : w3.cell? ⟨gx, 0, none⟩ = _ := T3.cell 0
          have y1 : w3.cell? ⟨gx, 1, none⟩ = _ := T3.cell 1
          have z0 := T3.frozen 0
          have z1 := T3.frozen 1
          simp only [List.getElem?_toArray, List.getElem?_cons_zero, List.getElem?_cons_succ] at y0 y1
          have HMM : Hid (lenV (.slice (some ⟨gq, 0, none⟩) m qc) + 1048577 * graysAt (setTwo w3 gx (.slice (some ⟨ga, 0, none⟩) 8 c) (.slice (some ⟨gb, 0, none⟩) 8 d)) gb < m + 1 + 1048577 * graysAt wr gb) := HMEAS.out _ _ _ _ HI4.out (by show m = rest.length; rw [HLR.out]) HRO.out.2.2
          have HNU : Hid (nu (blackT H T' (s : Int), rest) ≤ 8388617) := by have h1 := HRO.out.2.2; have h2 := HMU.out; show _ ≤ _; exact Nat.le_of_lt (Nat.lt_of_lt_of_le h1 h2)
          unfold setTwo at HI4 HMM
          clear T3 O3 O4 b3 oth3 HI3 CB ca0 cb0 fa0 fb0 x0 x1 f0 f1 f2 f3 hcell
          go_wp2
          go_roundw
          case rel => exact ⟨_, rest, _, qc, by rw [HLR.out], HI4, HRSL, HNU, HSN⟩
          case measure => exact HMM.out
        · rw [if_neg hpo] at HSN HRO
          have HKS : Hid (kidsOf H (s : Int) = kidL H H.objs[s].field) := kidsOf_at H s hsl
          have hkl := Nat.le_trans (kidL_le H H.objs[s].field) (HS.out.fields _ (List.getElem_mem hsl))
          obtain ⟨V, hV⟩ : ∃ V, V = wr.setCell ⟨gb, s, none⟩ (.int .i64 2) := ⟨_, rfl⟩
          have HIV : Hid (BI w2 V B ga gb c d ⟨T'.counts, T'.colors.set s 2⟩ (.slice (some ⟨gq, 0, none⟩) m qc) rest) := by rw [hV]; exact bi_color HPOP.out s 2
          have CK : Hid (∀ _ : Unit, _) := fun (_ : Unit) => sKids_calls _ H s V (HR.out V (HBW.out.trans (HIV.out.bel.mono (by have := HBs.out; omega)))) HS.out hsl (HF.out _ (List.getElem_mem hsl))
          obtain ⟨F5, -, -⟩ := HQ.out V HIV.out.oth
          have k0 : V.cell? ⟨w.heap.size, 0, none⟩ = some (.slice ao 8 co) := F5.cell 0
          have k1 : V.cell? ⟨w.heap.size, 1, none⟩ = some (.slice aw H.weaks.length cw) := F5.cell 1
          have k2 : V.cell? ⟨w.heap.size, 2, none⟩ = some (.slice ab H.buffer.length cb) := F5.cell 2
          have k3 : V.cell? ⟨w.heap.size, 3, none⟩ = some (.slice sa H.sites.length sc) := F5.cell 3
          rw [hV] at k0 k1 k2 k3
          rw [HKS.out] at HSN HRO
          have HKSL : Hid (Slots (kidL H H.objs[s].field)) := kidL_slots H _
          generalize kidL H H.objs[s].field = ks at *
          have HVs : Hid (w2.heap.size ≤ V.heap.size) := HIV.out.bel.size
          clear F5 HDD HKS hsl f0 f1 f2 f3
          go_wp2_with fail
          rw [← hV]
          clear hV k0 k1 k2 k3 ca0 cb0 fa0 fb0 x0 x1 hcell
          refine (CK.out ()).mono ?_
          rintro e w3 ⟨vk, rfl, O3, b3⟩
          obtain ⟨ka, kc, rfl, -⟩ := rdI_own O3
          have HI3 : Hid (BI w2 w3 B ga gb c d ⟨T'.counts, T'.colors.set s 2⟩ (.slice (some ⟨gq, 0, none⟩) m qc) rest) := bi_later HIV.out b3
          have HK3 : Hid (ownI w3 V.heap.size (.slice ka ks.length kc) ks) := O3
          have hw3 : w2.heap.size ≤ w3.heap.size := HI3.out.bel.size
          clear O3 b3 HIV CK
          go_wp2_with (at_builtin; refine wpList_appendM rfl _ _ rfl w2.heap.size _ rest rfl HI3.out.q ka kc ks.length ks rfl rfl V.heap.size HK3.out ?hlen hw3 ?_)
          case hlen => rw [HLR.out]; omega
          intro v4 X4 O4 s4 H4 B4
          obtain ⟨qa4, qc4, rfl, -⟩ := rdI_own O4
          have HI5 : Hid (BI w2 X4 B ga gb c d ⟨T'.counts, T'.colors.set s 2⟩ (.slice qa4 (rest ++ ks).length qc4) (rest ++ ks)) := bi_push HI3.out H4.out B4.out O4
          have HMM : Hid (lenV (.slice qa4 (rest ++ ks).length qc4) + 1048577 * graysAt X4 gb < m + 1 + 1048577 * graysAt wr gb) := HMEAS.out _ _ _ _ HI5.out rfl HRO.out.2.2
          have HNU : Hid (nu ((⟨T'.counts, T'.colors.set s 2⟩ : TrialD), rest ++ ks) ≤ 8388617) := by have h1 := HRO.out.2.2; have h2 := HMU.out; show _ ≤ _; exact Nat.le_of_lt (Nat.lt_of_lt_of_le h1 h2)
          have HSL2 : Hid (Slots (rest ++ ks)) := HRO.out.2.1
          clear O4 s4 H4 B4 HI3 HK3
          go_wp2
          go_roundw
          case rel => exact ⟨_, rest ++ ks, _, qc4, rfl, HI5, HSL2, HNU, HSN⟩
          case measure => exact HMM.out
      · rw [if_pos (by simpa using hgr)] at HSN HRO
        have hgn : (qcol != 1) = true := by simpa using hgr
        have HMM : Hid (lenV (.slice (some ⟨gq, 0, none⟩) m qc) + 1048577 * graysAt wr gb < m + 1 + 1048577 * graysAt wr gb) := HMEAS.out _ _ _ _ HPOP.out (by show m = rest.length; rw [HLR.out]) HRO.out.2.2
        have HNU : Hid (nu (T', rest) ≤ 8388617) := by have h1 := HRO.out.2.2; have h2 := HMU.out; show _ ≤ _; exact Nat.le_of_lt (Nat.lt_of_lt_of_le h1 h2)
        clear HDD
        go_wp2
        go_roundw
        case rel => exact ⟨T', rest, _, qc, by rw [HLR.out], HPOP, HRSL, HNU, HSN⟩
        case measure => exact HMM.out

end Go.Proofs.Ytjhceoejblmihaa
