/- What spec.l7Black makes. -/
import Derived.Test.YtjhceoejblmihaaRingState
namespace Go.Proofs.Ytjhceoejblmihaa
open Go.RowKit
set_option linter.unusedVariables false
set_option maxRecDepth 100000

theorem opIndexI {t i j : Tmp} {ty : TypeId} {pos : String} {af : Array Edge} {a : Act} {X : World} {K : Act → World → Prop} {Q : Exit → Act → World → Prop} {g n c k : Nat} (h1 : a.eval (.tmp i) = .slice (some ⟨g, 0, none⟩) n c) (h2 : a.eval (.tmp j) = .int .i64 (k : Int)) (hk : k < n) (hK : K (a.put (some t) (.pointer (some ⟨g, k, none⟩))) X) :
    Oper.wp Try.prog ⟨some t, .indexAddr 24 (.tmp i) (.tmp j), ty, pos, af, none⟩ a X K Q := by
  have e1 := ev_tmp h1
  have e2 := ev_tmp h2
  have k1 : (0 : Int) ≤ (k : Int) := by omega
  have k2 : (k : Int) < (n : Int) := by omega
  go_simp; exact hK
theorem opAdd1 {t i : Tmp} {ty : TypeId} {pos : String} {af : Array Edge} {a : Act} {X : World} {K : Act → World → Prop} {Q : Exit → Act → World → Prop} {z : Int} (h1 : a.eval (.tmp i) = .int .i64 z) (hK : K (a.put (some t) (.int .i64 (wrap64 (z + 1)))) X) :
    Oper.wp Try.prog ⟨some t, .binOp .add 3 (.tmp i) (.const (.int .i64 1)) 3, ty, pos, af, none⟩ a X K Q := by
  have h := ev_tmp h1
  have e : IntKind.i64.wrap (z + 1) = wrap64 (z + 1) := by rw [IntKind.wrap_i64]; simp only [wrap64]
  go_simp; exact hK
theorem opStoreC {i : Tmp} {ty : TypeId} {pos : String} {af : Array Edge} {a : Act} {X : World} {K : Act → World → Prop} {Q : Exit → Act → World → Prop} {g p : Nat} {u : Value} {z : Int} (h1 : a.eval (.tmp i) = .pointer (some ⟨g, p, none⟩)) (hc : X.cell? ⟨g, p, none⟩ = some u) (hf : X.frozen? ⟨g, p, none⟩ = false) (hK : K a (X.setCell ⟨g, p, none⟩ (.int .i64 z))) :
    Oper.wp Try.prog ⟨none, .store 3 (.tmp i) (.const (.int .i64 z)), ty, pos, af, none⟩ a X K Q := by
  have e1 := ev_tmp h1
  go_simp; exact hK
/-- What each operation of 'x.Counts[kids[i]] = x.Counts[kids[i]] + 1' yields. -/
def RB (gx ga c gk n kc j s : Nat) (z z' : Int) : Nat → Value → Prop
  | 0, v => v = .pointer (some ⟨gx, 0, none⟩)
  | 1, v => v = .slice (some ⟨ga, 0, none⟩) 8 c
  | 2, v => v = .slice (some ⟨gk, 0, none⟩) n kc
  | 3, v => v = .int .i64 (j : Int)
  | 4, v => v = .pointer (some ⟨gk, j, none⟩)
  | 5, v => v = .int .i64 (s : Int)
  | 6, v => v = .pointer (some ⟨gx, 0, none⟩)
  | 7, v => v = .slice (some ⟨ga, 0, none⟩) 8 c
  | 8, v => v = .slice (some ⟨gk, 0, none⟩) n kc
  | 9, v => v = .int .i64 (j : Int)
  | 10, v => v = .pointer (some ⟨gk, j, none⟩)
  | 11, v => v = .int .i64 (s : Int)
  | 12, v => v = .pointer (some ⟨ga, s, none⟩)
  | 13, v => v = .int .i64 z
  | 14, v => v = .int .i64 z'
  | 15, v => v = .pointer (some ⟨ga, s, none⟩)
  | _, _ => True
/-- What each operation of 'x.Colors[kids[i]] = ..' yields. -/
def RCo (gx gb d gk n kc j s : Nat) : Nat → Value → Prop
  | 0, v => v = .pointer (some ⟨gx, 1, none⟩)
  | 1, v => v = .slice (some ⟨gb, 0, none⟩) 8 d
  | 2, v => v = .slice (some ⟨gk, 0, none⟩) n kc
  | 3, v => v = .int .i64 (j : Int)
  | 4, v => v = .pointer (some ⟨gk, j, none⟩)
  | 5, v => v = .int .i64 (s : Int)
  | 6, v => v = .pointer (some ⟨gb, s, none⟩)
  | _, _ => True
theorem ownI_one (X : World) (B : Nat) (k : Int) (h : B ≤ X.heap.size) : ownI (X.alloc (.cells #[.int .i64 k] 3)) B (.slice (some ⟨X.heap.size, 0, none⟩) 1 1) [k] :=
  ⟨by simp, .inr ⟨X.heap.size, 1, #[.int .i64 k], rfl, h, heap_alloc_new X _, Nat.le_refl _, by unfold maxLen; omega, rfl, rfl⟩⟩

set_option maxHeartbeats 8000000 in
theorem sBlack_calls (v : Value) (H : HeapD) (T : TrialD) (ga gb c d k B : Nat) (w : World) (hR : ∀ X, Below B w X → RdH X v H) (hs : SmallH H) (h8 : H.objs.length = 8) (hf : ∀ o ∈ H.objs, ∀ z ∈ o.field, in64 z)
    (hx : ownI w B (.slice (some ⟨ga, 0, none⟩) 8 c) T.counts) (hy : ownI w B (.slice (some ⟨gb, 0, none⟩) 8 d) T.colors) (hne : ga ≠ gb) (hB : B ≤ w.heap.size) (hk : k < 8) :
    Calls Try.prog 62 #[v, .agg #[.slice (some ⟨ga, 0, none⟩) 8 c, .slice (some ⟨gb, 0, none⟩) 8 d], .int .i64 (k : Int)] w fun e w' => e = .returned (.agg #[.slice (some ⟨ga, 0, none⟩) 8 c, .slice (some ⟨gb, 0, none⟩) 8 d]) ∧ ownI w' B (.slice (some ⟨ga, 0, none⟩) 8 c) (blackT H T (k : Int)).counts ∧ ownI w' B (.slice (some ⟨gb, 0, none⟩) 8 d) (blackT H T (k : Int)).colors ∧ Below B w w' ∧ ∀ g, g < w.heap.size → g ≠ ga → g ≠ gb → w'.heap[g]? = w.heap[g]? := by
  have la := (ownI_lt hx ga rfl).2
  have lb := (ownI_lt hy gb rfl).2
  have B0 : BI w w B ga gb c d T (.slice none 0 0) [] := ⟨Below.refl _ _, fun _ _ _ _ => rfl, hx, hy, hne, la, lb, hB, ownI_nil _ _⟩
  obtain ⟨-, -, cb0, fb0⟩ := bi_cells B0 k hk
  obtain ⟨ao, co, aw, cw, ab, cb, sa, sc, rfl, -⟩ := hR w (Below.refl _ _)
  have HS : Hid (SmallH H) := hs
  have HF : Hid (∀ o ∈ H.objs, ∀ z ∈ o.field, in64 z) := hf
  have HR : Hid (∀ X, Below B w X → RdH X _ H) := hR
  have H8 : Hid (H.objs.length = 8) := h8
  rw [h8] at HR ⊢
  obtain ⟨W, hW⟩ : ∃ W, W = ((w.alloc (.cells #[.slice ao 8 co, .slice aw H.weaks.length cw, .slice ab H.buffer.length cb, .slice sa H.sites.length sc] 35)).alloc (.cells #[.slice (some ⟨ga, 0, none⟩) 8 c, .slice (some ⟨gb, 0, none⟩) 8 d] 30)).alloc (.cells #[.slice none 0 0, .slice none 0 0] 30) := ⟨_, rfl⟩
  have BW : Below w.heap.size w W := by rw [hW]; exact (((Below.refl _ _).alloc (Nat.le_refl _) _).alloc (by simp) _).alloc (by simp; omega) _
  have hWs : W.heap.size = w.heap.size + 3 := by rw [hW]; simp
  have HBW : Hid (Below w.heap.size w W) := BW
  have HWs : Hid (W.heap.size = w.heap.size + 3) := hWs
  have q0 : Four W w.heap.size (.slice ao 8 co) (.slice aw H.weaks.length cw) (.slice ab H.buffer.length cb) (.slice sa H.sites.length sc) := by
    have f1 := Four.new w (.slice ao 8 co) (.slice aw H.weaks.length cw) (.slice ab H.buffer.length cb) (.slice sa H.sites.length sc)
    exact Eq.trans (by rw [hW, Below.heap_alloc _ _ _ (by simp; omega), Below.heap_alloc _ _ _ (by simp)]) f1
  have q1 : Two W (w.heap.size + 1) (.slice (some ⟨ga, 0, none⟩) 8 c) (.slice (some ⟨gb, 0, none⟩) 8 d) := by
    have f1 := Two.new (w.alloc (.cells #[.slice ao 8 co, .slice aw H.weaks.length cw, .slice ab H.buffer.length cb, .slice sa H.sites.length sc] 35)) (.slice (some ⟨ga, 0, none⟩) 8 c) (.slice (some ⟨gb, 0, none⟩) 8 d)
    rw [show (w.alloc (.cells #[.slice ao 8 co, .slice aw H.weaks.length cw, .slice ab H.buffer.length cb, .slice sa H.sites.length sc] 35)).heap.size = w.heap.size + 1 from by simp] at f1
    exact Eq.trans (by rw [hW, Below.heap_alloc _ _ _ (by simp)]) f1
  have q2 : Two W (w.heap.size + 2) (.slice none 0 0) (.slice none 0 0) := by
    have f1 := Two.new ((w.alloc (.cells #[.slice ao 8 co, .slice aw H.weaks.length cw, .slice ab H.buffer.length cb, .slice sa H.sites.length sc] 35)).alloc (.cells #[.slice (some ⟨ga, 0, none⟩) 8 c, .slice (some ⟨gb, 0, none⟩) 8 d] 30)) (.slice none 0 0) (.slice none 0 0)
    rw [show ((w.alloc (.cells #[.slice ao 8 co, .slice aw H.weaks.length cw, .slice ab H.buffer.length cb, .slice sa H.sites.length sc] 35)).alloc (.cells #[.slice (some ⟨ga, 0, none⟩) 8 c, .slice (some ⟨gb, 0, none⟩) 8 d] 30)).heap.size = w.heap.size + 2 from by simp] at f1
    rw [hW]
    exact f1
  have HQ : Hid (∀ X, (∀ g, g < W.heap.size → g ≠ ga → g ≠ gb → X.heap[g]? = W.heap[g]?) → Four X w.heap.size (.slice ao 8 co) (.slice aw H.weaks.length cw) (.slice ab H.buffer.length cb) (.slice sa H.sites.length sc) ∧ Two X (w.heap.size + 1) (.slice (some ⟨ga, 0, none⟩) 8 c) (.slice (some ⟨gb, 0, none⟩) 8 d) ∧ Two X (w.heap.size + 2) (.slice none 0 0) (.slice none 0 0)) :=
    fun X hX => ⟨q0.same (hX _ (by omega) (by omega) (by omega)), q1.same (hX _ (by omega) (by omega) (by omega)), q2.same (hX _ (by omega) (by omega) (by omega))⟩
  have HB0 : Hid (BI W ((W.setCell ⟨gb, k, none⟩ (.int .i64 0)).alloc (.cells #[.int .i64 (k : Int)] 3)) B ga gb c d ⟨T.counts, T.colors.set k 0⟩ (.slice (some ⟨W.heap.size, 0, none⟩) 1 1) [(k : Int)]) := by
    have b1 : BI W W B ga gb c d T (.slice none 0 0) [] := ⟨Below.refl _ _, fun _ _ _ _ => rfl, ownI_later hx BW, ownI_later hy BW, hne, by omega, by omega, by omega, ownI_nil _ _⟩
    have b2 := bi_color b1 k 0
    have hz : (W.setCell ⟨gb, k, none⟩ (.int .i64 0)).heap.size = W.heap.size := by simp [World.setCell]
    have b3 := bi_later b2 ((Below.refl _ _).alloc (Nat.le_refl _) (.cells #[.int .i64 (k : Int)] 3))
    have b4 := ownI_one (W.setCell ⟨gb, k, none⟩ (.int .i64 0)) W.heap.size (k : Int) (by omega)
    rw [hz] at b4
    exact ⟨b3.bel, b3.oth, b3.x, b3.y, b3.ne, b3.la, b3.lb, b3.hB, b4⟩
  have HSL : Hid (Slots [(k : Int)]) := fun z hz => by rw [List.mem_singleton.1 hz]; omega
  have HRR : Hid (blackT H T (k : Int) = spreadAll 1 0 H ⟨T.counts, T.colors.set k 0⟩ [(k : Int)]) := by show _ = _; unfold blackT; rw [show ((k : Int)).toNat = k from by omega]
  have HM0 : Hid (mu 0 ((⟨T.counts, T.colors.set k 0⟩ : TrialD), [(k : Int)]) ≤ 17) := by
    have h1 := others_le 0 (T.colors.set k 0)
    rw [List.length_set, ← own_len hy] at h1
    show 2 * others 0 (T.colors.set k 0) + 1 ≤ 17
    omega
  have Hla : Hid (ga < w.heap.size ∧ gb < w.heap.size ∧ B ≤ w.heap.size) := ⟨la, lb, hB⟩
  generalize blackT H T (k : Int) = R at HRR ⊢
  have n1 : ¬ gb = w.heap.size := by omega
  have n2 : ¬ gb = w.heap.size + 1 := by omega
  have n3 : ¬ gb = w.heap.size + 2 := by omega
  have cW : W.cell? ⟨gb, k, none⟩ = some (.int .i64 (T.colors.getD k 0)) := (BW.cell (p := ⟨gb, k, none⟩) lb).trans cb0
  have fW : W.frozen? ⟨gb, k, none⟩ = false := by
    have b1 : BI W W B ga gb c d T (.slice none 0 0) [] := ⟨Below.refl _ _, fun _ _ _ _ => rfl, ownI_later hx BW, ownI_later hy BW, hne, by omega, by omega, by omega, ownI_nil _ _⟩
    exact (bi_cells b1 k hk).2.2.2
  rw [hW] at fW cW
  clear hx hy hR hs hf q0 q1 q2 BW B0 h8 hWs fb0
  go_enter Try.func62, Try.ntmps62
  go_wp2
  rw [← hW]
  clear hW cW fW cb0 n1 n2 n3
  go_loopw [7] (fun vq wr => ∃ (T' : TrialD) (todo : List Int) (qa : Option Addr) (qc : Nat), vq = .slice qa todo.length qc ∧ Hid (BI W wr B ga gb c d T' vq todo) ∧ Hid (Slots todo) ∧ Hid (mu 0 (T', todo) ≤ 17) ∧ Hid (R = spreadAll 1 0 H T' todo)) (fun vq wr => lenV vq + 2 * othersAt wr gb 0)
  case atStart => exact ⟨_, [(k : Int)], _, 1, rfl, HWs.out ▸ HB0.out, HSL, HM0, HRR⟩
  case round =>
    obtain ⟨T', todo, qa, qc, rfl, HI, HT, HMU, HRS⟩ := hrel
    obtain ⟨F0, X1, X2⟩ := HQ.out wr HI.out.oth
    rcases List.eq_nil_or_concat todo with rfl | ⟨rest, kz, rfl⟩
    · have HE : Hid (R = T') := by show _ = _; rw [HRS.out, spreadAll_nil]
      have x0 : wr.cell? ⟨w.heap.size + 1, 0, none⟩ = some (.slice (some ⟨ga, 0, none⟩) 8 c) := X1.cell 0
      have x1 : wr.cell? ⟨w.heap.size + 1, 1, none⟩ = some (.slice (some ⟨gb, 0, none⟩) 8 d) := X1.cell 1
      have r0 : wr.cell? ⟨w.heap.size + 2, 0, none⟩ = some (.slice none 0 0) := X2.cell 0
      have r1 : wr.cell? ⟨w.heap.size + 2, 1, none⟩ = some (.slice none 0 0) := X2.cell 1
      have z0 := X2.frozen 0
      have z1 := X2.frozen 1
      have HFIN : Hid (ownI (setTwo wr (w.heap.size + 2) (.slice (some ⟨ga, 0, none⟩) 8 c) (.slice (some ⟨gb, 0, none⟩) 8 d)) B (.slice (some ⟨ga, 0, none⟩) 8 c) R.counts ∧ ownI (setTwo wr (w.heap.size + 2) (.slice (some ⟨ga, 0, none⟩) 8 c) (.slice (some ⟨gb, 0, none⟩) 8 d)) B (.slice (some ⟨gb, 0, none⟩) 8 d) R.colors ∧ Below B w (setTwo wr (w.heap.size + 2) (.slice (some ⟨ga, 0, none⟩) 8 c) (.slice (some ⟨gb, 0, none⟩) 8 d)) ∧ ∀ g, g < w.heap.size → g ≠ ga → g ≠ gb → (setTwo wr (w.heap.size + 2) (.slice (some ⟨ga, 0, none⟩) 8 c) (.slice (some ⟨gb, 0, none⟩) 8 d)).heap[g]? = w.heap[g]?) := by
        have hs3 := HWs.out
        obtain ⟨l1, l2, l3⟩ := Hla.out
        have ha : ∀ g, (Value.slice (some ⟨ga, 0, none⟩) 8 c).ownBlock = some g → g ≠ w.heap.size + 2 := fun g hg => by
          have : ga = g := by simpa [Value.ownBlock] using hg
          omega
        have hbb : ∀ g, (Value.slice (some ⟨gb, 0, none⟩) 8 d).ownBlock = some g → g ≠ w.heap.size + 2 := fun g hg => by
          have : gb = g := by simpa [Value.ownBlock] using hg
          omega
        rw [HE.out]
        refine ⟨ownI_same HI.out.x (fun g hg => setTwo_other _ _ _ _ g (ha g hg)), ownI_same HI.out.y (fun g hg => setTwo_other _ _ _ _ g (hbb g hg)), ?_, fun g h1 h2 h3 => ?_⟩
        · unfold setTwo
          exact (((HBW.out.mono l3).trans HI.out.bel).setCell (by simp only; omega) _).setCell (by simp only; omega) _
        · exact (setTwo_other _ _ _ _ g (by omega)).trans ((HI.out.oth g (by omega) h2 h3).trans (HBW.out.block g h1))
      clear F0 X1 X2 HI HRS
      go_wp2
      exact bodyPost_ret (v := .agg #[.slice (some ⟨ga, 0, none⟩) 8 c, .slice (some ⟨gb, 0, none⟩) 8 d]) (by simp [results, Try.results62, go_sem, *]) rfl ⟨rfl, HFIN.out⟩
    · rw [List.concat_eq_append] at *
      obtain ⟨m, hm⟩ : ∃ m, rest.length = m := ⟨_, rfl⟩
      have hl : (rest ++ [kz]).length = m + 1 := by simp [hm]
      rw [hl] at HI ⊢
      obtain ⟨s, rfl⟩ : ∃ s : Nat, kz = (s : Int) := ⟨kz.toNat, by have := HT.out kz (by simp); omega⟩
      have hs8 : s < 8 := by have := HT.out (s : Int) (by simp); omega
      rcases ownI_form HI.out.q with ⟨h1, -⟩ | ⟨gq, cap, h1, hgq, hgl, hcap, hmax, HC⟩
      · simp at h1
      have e1 : qa = some ⟨gq, 0, none⟩ ∧ qc = cap := by simp only [Value.slice.injEq] at h1; exact ⟨h1.1, h1.2.2⟩
      obtain ⟨rfl, rfl⟩ := e1
      have hcell : wr.cell? ⟨gq, m, none⟩ = some (.int .i64 (s : Int)) := by
        have h2 := (HC.out m (by omega)).1
        rw [List.getElem_append_right (by omega)] at h2
        simpa using h2
      rw [hl] at hcap
      have hm17 : m ≤ 17 := by have := HMU.out; simp only [mu] at this; omega
      have HPOP : Hid (BI W wr B ga gb c d T' (.slice (some ⟨gq, 0, none⟩) m qc) rest) := bi_pop HI.out
      have hsl : s < H.objs.length := by have := H8.out; omega
      have CK : Hid (∀ _ : Unit, _) := fun (_ : Unit) => sKids_calls _ H s wr (HR.out wr ((HBW.out.mono Hla.out.2.2).trans HI.out.bel)) HS.out hsl (HF.out _ (List.getElem_mem hsl))
      have HKS : Hid (kidsOf H (s : Int) = kidL H H.objs[s].field) := kidsOf_at H s hsl
      have HSN : Hid (R = spreadAll 1 0 H (roundS 1 0 (kidsOf H) T' rest (s : Int)).1 (roundS 1 0 (kidsOf H) T' rest (s : Int)).2) := by show _ = _; rw [HRS.out, spreadAll_snoc 1 0 H T' rest (s : Int) HI.out.eight HT.out]
      have HRO : Hid _ := round_ok 1 0 (kidsOf H) (kidsOf_slots H) T' rest (s : Int) HI.out.eight HT.out
      have HKSL : Hid (Slots (kidL H H.objs[s].field)) := kidL_slots H _
      have HMS : Hid (othersAt wr gb 0 = others 0 T'.colors) := othersAt_is HI.out 0
      have HRSL : Hid (Slots rest) := fun z hz => HT.out z (by simp [hz])
      have HE8 : Hid (Eight T') := HI.out.eight
      unfold roundS at HSN HRO
      rw [HKS.out] at HSN HRO
      have hkl := Nat.le_trans (kidL_le H H.objs[s].field) (HS.out.fields _ (List.getElem_mem hsl))
      generalize kidL H H.objs[s].field = ks at *
      have f0 : wr.cell? ⟨w.heap.size, 0, none⟩ = some (.slice ao 8 co) := F0.cell 0
      have f1 : wr.cell? ⟨w.heap.size, 1, none⟩ = some (.slice aw H.weaks.length cw) := F0.cell 1
      have f2 : wr.cell? ⟨w.heap.size, 2, none⟩ = some (.slice ab H.buffer.length cb) := F0.cell 2
      have f3 : wr.cell? ⟨w.heap.size, 3, none⟩ = some (.slice sa H.sites.length sc) := F0.cell 3
      have HGQ : Hid (gq < wr.heap.size) := hgl
      have HWB : Hid (W.heap.size ≤ wr.heap.size) := HI.out.bel.size
      have hmc : (m : Int) ≤ (qc : Int) := by omega
      have hb1 : decide ((0 : Int) < (m : Int) + 1) = true := decide_eq_true (by omega)
      clear F0 X1 X2 HI HRS HC hgl hgq hmax h1 hl hm HT HKS hsl
      go_wp2_with fail
      refine (CK.out ()).mono ?_
      rintro e w1 ⟨vk, rfl, O1, b1⟩
      obtain ⟨ka, kc, rfl, -⟩ := rdI_own O1
      have HI1 : Hid (BI W w1 B ga gb c d T' (.slice (some ⟨gq, 0, none⟩) m qc) rest) := bi_later HPOP.out b1
      have HK1 : Hid (ownI w1 W.heap.size (.slice ka ks.length kc) ks) := ownI_mono O1 HWB.out
      have HD1 : Hid (Dif2 (.slice (some ⟨gq, 0, none⟩) m qc) (.slice ka ks.length kc)) := fun g h1 h2 => by
        have e1 : gq = g := by simpa [Value.ownBlock] using h1
        have e2 := (ownI_lt O1 g h2).1
        have e3 := HGQ.out
        omega
      have HM1 : Hid (mu 0 (T', rest) ≤ 17) := by
        have h1 := HMU.out
        simp only [mu, List.length_append, List.length_singleton] at h1
        show 2 * others 0 T'.colors + rest.length ≤ 17
        omega
      have HLR : Hid (rest.length = m) := own_len HI1.out.q ▸ rfl
      clear O1 b1 CK HPOP f0 f1 f2 f3 hcell
      obtain ⟨n, hn⟩ : ∃ n, ks.length = n := ⟨_, rfl⟩
      have Hn : Hid (ks.length = n) := hn
      rw [hn] at HK1 HD1 hkl ⊢
      clear hn
      go_wp2
      go_loopw [7, 10] (fun vq i X => ∃ (j : Nat) (T2 : TrialD) (td : List Int) (qa2 : Option Addr) (qc2 : Nat), i = .int .i64 (j : Int) ∧ vq = .slice qa2 td.length qc2 ∧ j ≤ n ∧ Hid (BI W X B ga gb c d T2 vq td) ∧ Hid ((ks.take j).foldl (kidStep 1 0) (T', rest) = (T2, td)) ∧ Hid (ownI X W.heap.size (.slice ka n kc) ks) ∧ Hid (Dif2 vq (.slice ka n kc))) (fun _ i _ => n - (intOf i).toNat)
      case atStart => exact ⟨0, T', rest, _, qc, rfl, by rw [HLR.out], by omega, HI1, rfl, HK1, HD1⟩
      case round =>
        obtain ⟨j, T2, td, qa2, qc2, rfl, rfl, hjn, HI2, HFO, HK2, HD2⟩ := hrel
        by_cases hlt : j < n
        · have hj2 : j < ks.length := by have := Hn.out; omega
          obtain ⟨t, ht⟩ : ∃ t : Nat, ks[j] = (t : Int) := ⟨ks[j].toNat, by have := HKSL.out _ (List.getElem_mem hj2); omega⟩
          have ht8 : t < 8 := by have := HKSL.out _ (List.getElem_mem hj2); omega
          have HML : Hid (td.length ≤ 17) := by
            have h1 := (kids_ok 1 0 (ks.take j) (T', rest) HE8.out HRSL.out (fun z hz => HKSL.out z (List.mem_of_mem_take hz))).2.2
            rw [HFO.out] at h1
            have h2 := HM1.out
            simp only [mu] at h1 h2
            show _ ≤ _
            omega
          have HSTEP : Hid ((ks.take (j + 1)).foldl (kidStep 1 0) (T', rest) = kidStep 1 0 (T2, td) (t : Int)) := by
            show _ = _
            rw [List.take_succ_eq_append_getElem hj2, List.foldl_append, HFO.out, ht]; rfl
          rcases ownI_form HK2.out with ⟨h1, -⟩ | ⟨gk, cap, h1, hgkB, hgk, hcp, hmx, HC⟩
          · simp only [Value.slice.injEq] at h1; omega
          obtain ⟨rfl, rfl⟩ : ka = some ⟨gk, 0, none⟩ ∧ kc = cap := by simp only [Value.slice.injEq] at h1; exact ⟨h1.1, h1.2.2⟩
          have hck : wr.cell? ⟨gk, j, none⟩ = some (.int .i64 (t : Int)) := by
            have h2 := (HC.out j hj2).1
            rw [ht] at h2
            exact h2
          obtain ⟨ca, -, -, -⟩ := bi_cells HI2.out t ht8
          obtain ⟨-, X1, -⟩ := HQ.out wr HI2.out.oth
          have hgal : ga < wr.heap.size := Nat.lt_of_lt_of_le HI2.out.la HI2.out.bel.size
          obtain ⟨z, hz⟩ : ∃ z, T2.counts.getD t 0 = z := ⟨_, rfl⟩
          obtain ⟨y, hy⟩ : ∃ y, T2.colors.getD t 0 = y := ⟨_, rfl⟩
          rw [hz] at ca
          have HKST : Hid (kidStep 1 0 (T2, td) (t : Int) = if y = 0 then ((⟨T2.counts.set t (wrap64 (z + 1)), T2.colors⟩ : TrialD), td) else ((⟨T2.counts.set t (wrap64 (z + 1)), T2.colors.set t 0⟩ : TrialD), td ++ [(t : Int)])) := by
            show _ = _
            unfold kidStep
            simp only [show ((t : Int)).toNat = t from by omega, hz, hy]
          have HY : Hid (T2.colors.getD t 0 = y) := hy
          have HGK : Hid (W.heap.size ≤ gk) := hgkB
          have HTJ : Hid (ks[j] = (t : Int)) := ht
          clear HC h1 hcp hmx hz hy ht hgkB
          go_wp2
          refine wp_region_last 16 (by kernel_rfl) (by kernel_rfl) (fun i _ v => RB (w.heap.size + 1) ga c gk n kc j t z (wrap64 (z + 1)) i v) (fun _ _ _ _ h _ => h) ?_ ?_
          · intro i o hi ho a X hXX hA hdep
            match i, hi, ho with
            | 0, _, ho =>
              obtain rfl := Option.some.inj ho
              exact opFieldT 0 (by omega) (alike_at hA (t := 4) (by kernel_rfl)) ⟨_, rfl, Below.refl _ _, rfl⟩
            | 1, _, ho =>
              obtain rfl := Option.some.inj ho
              have e0 : a.eval (.tmp 40) = .pointer (some ⟨w.heap.size + 1, 0, none⟩) := hdep ⟨0, .data⟩ (by simp) rfl 40 rfl
              exact opLoadI e0 ((X1.later hXX X1.lt).cell 0) ⟨_, rfl, Below.refl _ _, rfl⟩
            | 2, _, ho =>
              obtain rfl := Option.some.inj ho
              exact opMove (alike_at hA (t := 9) (by kernel_rfl)) ⟨_, rfl, Below.refl _ _, rfl⟩
            | 3, _, ho =>
              obtain rfl := Option.some.inj ho
              exact opMove (alike_at hA (t := 10) (by kernel_rfl)) ⟨_, rfl, Below.refl _ _, rfl⟩
            | 4, _, ho =>
              obtain rfl := Option.some.inj ho
              have e2 : a.eval (.tmp 42) = .slice (some ⟨gk, 0, none⟩) n kc := hdep ⟨2, .data⟩ (by simp) rfl 42 rfl
              have e3 : a.eval (.tmp 43) = .int .i64 (j : Int) := hdep ⟨3, .data⟩ (by simp) rfl 43 rfl
              exact opIndexI e2 e3 hlt ⟨_, rfl, Below.refl _ _, rfl⟩
            | 5, _, ho =>
              obtain rfl := Option.some.inj ho
              have e4 : a.eval (.tmp 44) = .pointer (some ⟨gk, j, none⟩) := hdep ⟨4, .data⟩ (by simp) rfl 44 rfl
              exact opLoadInt e4 ((hXX.cell (p := ⟨gk, j, none⟩) hgk).trans hck) ⟨_, rfl, Below.refl _ _, rfl⟩
            | 6, _, ho =>
              obtain rfl := Option.some.inj ho
              exact opFieldT 0 (by omega) (alike_at hA (t := 4) (by kernel_rfl)) ⟨_, rfl, Below.refl _ _, rfl⟩
            | 7, _, ho =>
              obtain rfl := Option.some.inj ho
              have e6 : a.eval (.tmp 46) = .pointer (some ⟨w.heap.size + 1, 0, none⟩) := hdep ⟨6, .data⟩ (by simp) rfl 46 rfl
              exact opLoadI e6 ((X1.later hXX X1.lt).cell 0) ⟨_, rfl, Below.refl _ _, rfl⟩
            | 8, _, ho =>
              obtain rfl := Option.some.inj ho
              exact opMove (alike_at hA (t := 9) (by kernel_rfl)) ⟨_, rfl, Below.refl _ _, rfl⟩
            | 9, _, ho =>
              obtain rfl := Option.some.inj ho
              exact opMove (alike_at hA (t := 10) (by kernel_rfl)) ⟨_, rfl, Below.refl _ _, rfl⟩
            | 10, _, ho =>
              obtain rfl := Option.some.inj ho
              have e8 : a.eval (.tmp 48) = .slice (some ⟨gk, 0, none⟩) n kc := hdep ⟨8, .data⟩ (by simp) rfl 48 rfl
              have e9 : a.eval (.tmp 49) = .int .i64 (j : Int) := hdep ⟨9, .data⟩ (by simp) rfl 49 rfl
              exact opIndexI e8 e9 hlt ⟨_, rfl, Below.refl _ _, rfl⟩
            | 11, _, ho =>
              obtain rfl := Option.some.inj ho
              have e10 : a.eval (.tmp 50) = .pointer (some ⟨gk, j, none⟩) := hdep ⟨10, .data⟩ (by simp) rfl 50 rfl
              exact opLoadInt e10 ((hXX.cell (p := ⟨gk, j, none⟩) hgk).trans hck) ⟨_, rfl, Below.refl _ _, rfl⟩
            | 12, _, ho =>
              obtain rfl := Option.some.inj ho
              have e7 : a.eval (.tmp 47) = .slice (some ⟨ga, 0, none⟩) 8 c := hdep ⟨7, .data⟩ (by simp) rfl 47 rfl
              have e11 : a.eval (.tmp 51) = .int .i64 (t : Int) := hdep ⟨11, .data⟩ (by simp) rfl 51 rfl
              exact opIndexI e7 e11 ht8 ⟨_, rfl, Below.refl _ _, rfl⟩
            | 13, _, ho =>
              obtain rfl := Option.some.inj ho
              have e12 : a.eval (.tmp 52) = .pointer (some ⟨ga, t, none⟩) := hdep ⟨12, .data⟩ (by simp) rfl 52 rfl
              exact opLoadInt e12 ((hXX.cell (p := ⟨ga, t, none⟩) hgal).trans ca) ⟨_, rfl, Below.refl _ _, rfl⟩
            | 14, _, ho =>
              obtain rfl := Option.some.inj ho
              have e13 : a.eval (.tmp 53) = .int .i64 z := hdep ⟨13, .data⟩ (by simp) rfl 53 rfl
              exact opAdd1 e13 ⟨_, rfl, Below.refl _ _, rfl⟩
            | 15, _, ho =>
              obtain rfl := Option.some.inj ho
              have e1 : a.eval (.tmp 41) = .slice (some ⟨ga, 0, none⟩) 8 c := hdep ⟨1, .data⟩ (by simp) rfl 41 rfl
              have e5 : a.eval (.tmp 45) = .int .i64 (t : Int) := hdep ⟨5, .data⟩ (by simp) rfl 45 rfl
              exact opIndexI e1 e5 ht8 ⟨_, rfl, Below.refl _ _, rfl⟩
            | q + 16, hi, _ => exact absurd hi (by omega)
          · intro o ho a X hXX hA hdep
            obtain rfl := Option.some.inj ho
            have e15 : a.eval (.tmp 55) = .pointer (some ⟨ga, t, none⟩) := hdep ⟨15, .data⟩ (by simp) rfl 55 rfl
            have e14 : a.eval (.tmp 54) = .int .i64 (wrap64 (z + 1)) := hdep ⟨14, .data⟩ (by simp) rfl 54 rfl
            have BX := bi_later HI2.out hXX
            obtain ⟨ca2, fa2, -, -⟩ := bi_cells BX t ht8
            refine opStoreInt e15 e14 ca2 fa2 ?_
            have HI3 : Hid _ := bi_count BX t (wrap64 (z + 1))
            have HK3 : Hid (ownI (X.setCell ⟨ga, t, none⟩ (.int .i64 (wrap64 (z + 1)))) W.heap.size (.slice (some ⟨gk, 0, none⟩) n kc) ks) := ownI_same (ownI_later HK2.out hXX) (fun g hg => heap_setCell_other _ _ _ _ (by have := (ownI_lt HK2.out g hg).1; have := HI2.out.la; show g ≠ ga; omega))
            obtain ⟨us, hus, rfl⟩ := alike_tmps hA [40, 41, 42, 43, 44, 45, 46, 47, 48, 49, 50, 51, 52, 53, 54, 55] (by kernel_rfl)
            clear hdep hA hus e15 e14 BX ca2 fa2 ho X1 hck hgk ca hgal
            generalize X.setCell ⟨ga, t, none⟩ (.int .i64 (wrap64 (z + 1))) = Y at *
            simp only [List.mapIdx_cons, List.mapIdx_nil, Nat.reduceAdd, List.contains_cons, List.contains_nil, Nat.reduceBEq, Bool.or_false, Bool.or_true, if_true, if_false, Bool.false_eq_true]
            have HCY : Hid (∀ V, Below Y.heap.size Y V → V.cell? ⟨w.heap.size + 1, 1, none⟩ = some (.slice (some ⟨gb, 0, none⟩) 8 d) ∧ V.cell? ⟨gk, j, none⟩ = some (.int .i64 (t : Int)) ∧ V.cell? ⟨gb, t, none⟩ = some (.int .i64 y)) := fun V hV => by
              have b1 := bi_later HI3.out hV
              have k1 := ownI_later HK3.out hV
              refine ⟨(HQ.out V b1.oth).2.1.cell 1, ?_, ?_⟩
              · rcases ownI_form k1 with ⟨h1, -⟩ | ⟨gk2, cap2, h1, -, -, -, -, HC⟩
                · cases h1
                · have e1 : gk = gk2 := by simp only [Value.slice.injEq, Option.some.injEq, Addr.mk.injEq] at h1; exact h1.1.1
                  subst e1
                  have h2 := (HC.out j hj2).1
                  rw [HTJ.out] at h2
                  exact h2
              · have := (bi_cells b1 t ht8).2.2.1
                rw [HY.out] at this
                exact this
            have hne2 := LaterW.some_ Y
            have y4 : ∀ V : LaterW Y, V.on.cell? ⟨w.heap.size + 1, 1, none⟩ = some (.slice (some ⟨gb, 0, none⟩) 8 d) := fun V => (HCY.out V.on V.bel).1
            have yk : ∀ V : LaterW Y, V.on.cell? ⟨gk, j, none⟩ = some (.int .i64 (t : Int)) := fun V => (HCY.out V.on V.bel).2.1
            have yc : ∀ V : LaterW Y, V.on.cell? ⟨gb, t, none⟩ = some (.int .i64 y) := fun V => (HCY.out V.on V.bel).2.2
            have i1 : (j : Int) < (n : Int) := by omega
            have i2 : (t : Int) < 8 := by omega
            by_cases hy0 : y = 0
            · have hq : (y != 0) = false := by simp [hy0]
              have HNX : Hid ((ks.take (j + 1)).foldl (kidStep 1 0) (T', rest) = ((⟨T2.counts.set t (wrap64 (z + 1)), T2.colors⟩ : TrialD), td)) := by show _ = _; rw [HSTEP.out, HKST.out, if_pos hy0]
              clear hy0 HKST HSTEP
              go_wp2
              refine wp_region_later Y (Below.refl _ _) (by kernel_rfl) (by kernel_rfl) ?_
              repeat (go_big_quiet_step (fail))
              refine wpQuiet_nil ?_
              intro V hVe
              have hV : Below Y.heap.size Y V := by obtain ⟨q, hq2⟩ := hVe; rw [hq2]; exact q.bel
              have HI4 : Hid _ := bi_later HI3.out hV
              have HK4 : Hid _ := ownI_later HK3.out hV
              clear hVe y4 yk yc hne2 hV
              go_wp2
              go_roundw
              case rel => exact ⟨j + 1, _, td, qa2, qc2, by go_num, rfl, by omega, HI4, HNX, HK4, HD2⟩
              case measure => simp [intOf]; omega
            · have hq : (y != 0) = true := by simp [hy0]
              have HNX : Hid ((ks.take (j + 1)).foldl (kidStep 1 0) (T', rest) = ((⟨T2.counts.set t (wrap64 (z + 1)), T2.colors.set t 0⟩ : TrialD), td ++ [(t : Int)])) := by show _ = _; rw [HSTEP.out, HKST.out, if_neg hy0]
              clear hy0 HKST HSTEP
              go_wp2
              refine wp_region_later Y (Below.refl _ _) (by kernel_rfl) (by kernel_rfl) ?_
              repeat (go_big_quiet_step (fail))
              refine wpQuiet_nil ?_
              intro V hVe
              have hV : Below Y.heap.size Y V := by obtain ⟨q, hq2⟩ := hVe; rw [hq2]; exact q.bel
              have HI4 : Hid _ := bi_later HI3.out hV
              have HK4 : Hid _ := ownI_later HK3.out hV
              obtain ⟨-, hckV, -⟩ := HCY.out V hV
              have hgkV : gk < V.heap.size := (ownI_lt HK4.out gk rfl).2
              have Y1 := (HQ.out V HI4.out.oth).2.1
              clear hVe y4 yk yc hne2 hV
              go_wp2
              refine wp_region_last 7 (by kernel_rfl) (by kernel_rfl) (fun i _ v => RCo (w.heap.size + 1) gb d gk n kc j t i v) (fun _ _ _ _ h _ => h) ?_ ?_
              · intro i o hi ho a X hXX hA hdep
                match i, hi, ho with
                | 0, _, ho =>
                  obtain rfl := Option.some.inj ho
                  exact opFieldT 1 (by omega) (alike_at hA (t := 4) (by kernel_rfl)) ⟨_, rfl, Below.refl _ _, rfl⟩
                | 1, _, ho =>
                  obtain rfl := Option.some.inj ho
                  have e0 : a.eval (.tmp 65) = .pointer (some ⟨w.heap.size + 1, 1, none⟩) := hdep ⟨0, .data⟩ (by simp) rfl 65 rfl
                  exact opLoadI e0 ((Y1.later hXX Y1.lt).cell 1) ⟨_, rfl, Below.refl _ _, rfl⟩
                | 2, _, ho =>
                  obtain rfl := Option.some.inj ho
                  exact opMove (alike_at hA (t := 9) (by kernel_rfl)) ⟨_, rfl, Below.refl _ _, rfl⟩
                | 3, _, ho =>
                  obtain rfl := Option.some.inj ho
                  exact opMove (alike_at hA (t := 10) (by kernel_rfl)) ⟨_, rfl, Below.refl _ _, rfl⟩
                | 4, _, ho =>
                  obtain rfl := Option.some.inj ho
                  have e2 : a.eval (.tmp 67) = .slice (some ⟨gk, 0, none⟩) n kc := hdep ⟨2, .data⟩ (by simp) rfl 67 rfl
                  have e3 : a.eval (.tmp 68) = .int .i64 (j : Int) := hdep ⟨3, .data⟩ (by simp) rfl 68 rfl
                  exact opIndexI e2 e3 hlt ⟨_, rfl, Below.refl _ _, rfl⟩
                | 5, _, ho =>
                  obtain rfl := Option.some.inj ho
                  have e4 : a.eval (.tmp 69) = .pointer (some ⟨gk, j, none⟩) := hdep ⟨4, .data⟩ (by simp) rfl 69 rfl
                  exact opLoadInt e4 ((hXX.cell (p := ⟨gk, j, none⟩) hgkV).trans hckV) ⟨_, rfl, Below.refl _ _, rfl⟩
                | 6, _, ho =>
                  obtain rfl := Option.some.inj ho
                  have e1 : a.eval (.tmp 66) = .slice (some ⟨gb, 0, none⟩) 8 d := hdep ⟨1, .data⟩ (by simp) rfl 66 rfl
                  have e5 : a.eval (.tmp 70) = .int .i64 (t : Int) := hdep ⟨5, .data⟩ (by simp) rfl 70 rfl
                  exact opIndexI e1 e5 ht8 ⟨_, rfl, Below.refl _ _, rfl⟩
              · intro o ho a X hXX hA hdep
                obtain rfl := Option.some.inj ho
                have e6 : a.eval (.tmp 71) = .pointer (some ⟨gb, t, none⟩) := hdep ⟨6, .data⟩ (by simp) rfl 71 rfl
                have BX := bi_later HI4.out hXX
                obtain ⟨-, -, cb2, fb2⟩ := bi_cells BX t ht8
                refine opStoreC e6 cb2 fb2 ?_
                have HI5 : Hid _ := bi_color BX t 0
                have HK5 : Hid (ownI (X.setCell ⟨gb, t, none⟩ (.int .i64 0)) W.heap.size (.slice (some ⟨gk, 0, none⟩) n kc) ks) := ownI_same (ownI_later HK4.out hXX) (fun g hg => heap_setCell_other _ _ _ _ (by have := (ownI_lt HK4.out g hg).1; have := HI2.out.lb; show g ≠ gb; omega))
                obtain ⟨us, hus, rfl⟩ := alike_tmps hA [65, 66, 67, 68, 69, 70, 71] (by kernel_rfl)
                clear hdep hA hus e6 BX cb2 fb2 ho Y1 hckV hgkV
                generalize X.setCell ⟨gb, t, none⟩ (.int .i64 0) = Y2 at *
                simp only [List.mapIdx_cons, List.mapIdx_nil, Nat.reduceAdd, List.contains_cons, List.contains_nil, Nat.reduceBEq, Bool.or_false, Bool.or_true, if_true, if_false, Bool.false_eq_true]
                have hck5 : Y2.cell? ⟨gk, j, none⟩ = some (.int .i64 (t : Int)) := by
                  rcases ownI_form HK5.out with ⟨h1, -⟩ | ⟨gk2, cap2, h1, -, -, -, -, HC⟩
                  · cases h1
                  · have e1 : gk = gk2 := by simp only [Value.slice.injEq, Option.some.injEq, Addr.mk.injEq] at h1; exact h1.1.1
                    subst e1
                    have h2 := (HC.out j hj2).1
                    rw [HTJ.out] at h2
                    exact h2
                obtain ⟨U, hU⟩ : ∃ U, U = Y2.alloc (.cells #[.int .i64 (t : Int)] 3) := ⟨_, rfl⟩
                have bU : Below Y2.heap.size Y2 U := by rw [hU]; exact (Below.refl _ _).alloc (Nat.le_refl _) _
                have HIU : Hid _ := bi_later HI5.out bU
                have HKU : Hid _ := ownI_later HK5.out bU
                have hUc : U.cell? ⟨Y2.heap.size, 0, none⟩ = some (.int .i64 (t : Int)) := by rw [hU, World.cell?_alloc_mark]; rfl
                have HUB : Hid (W.heap.size ≤ U.heap.size) := HIU.out.bel.size
                clear bU
                go_wp2_with (at_builtin; rw [← hU]; clear hU; refine wpList_appendL rfl _ _ rfl W.heap.size _ _ rfl HIU.out.q ⟨Y2.heap.size, 0, none⟩ (t : Int) rfl hUc ?hlen HUB.out ?_)
                case hlen => have := HML.out; omega
                intro v6 X6 O6 s6 H6 A6 B6
                obtain ⟨qa6, qc6, rfl, -⟩ := rdI_own O6
                have HI6 : Hid _ := bi_push HIU.out H6.out B6.out O6
                have HK6 : Hid (ownI X6 W.heap.size (.slice (some ⟨gk, 0, none⟩) n kc) ks) := ownI_same HKU.out (fun g hg => H6.out g (ownI_lt HKU.out g hg).2 (fun e => HD2.out g e hg))
                have HD6 : Hid (Dif2 (.slice qa6 (td ++ [(t : Int)]).length qc6) (.slice (some ⟨gk, 0, none⟩) n kc)) := fun g h1 h2 => by
                  rcases A6.out with e | e
                  · exact HD2.out g (by rw [← e]; exact h1) h2
                  · rw [e] at h1
                    injection h1 with h1
                    have := (ownI_lt HKU.out g h2).2
                    omega
                clear O6 H6 A6 B6 hck5 hUc
                go_wp2
                go_roundw
                case rel => exact ⟨j + 1, _, td ++ [(t : Int)], qa6, qc6, by go_num, by simp, by omega, HI6, HNX, HK6, HD6⟩
                case measure => simp [intOf]; omega
        · have HALL : Hid (ks.foldl (kidStep 1 0) (T', rest) = (T2, td)) := by
            have h1 := HFO.out
            rw [List.take_of_length_le (by have := Hn.out; omega)] at h1
            exact h1
          have HT2 : Hid (Slots td ∧ mu 0 (T2, td) < mu 0 (T', rest ++ [(s : Int)]) ∧ R = spreadAll 1 0 H T2 td) := by
            have h1 := HRO.out
            have h2 := HSN.out
            rw [HALL.out] at h1 h2
            exact ⟨h1.2.1, h1.2.2, h2⟩
          have HMS2 : Hid (othersAt wr gb 0 = others 0 T2.colors) := othersAt_is HI2.out 0
          have hge : n ≤ j := by omega
          clear hlt
          go_wp2
          go_roundw
          case rel => exact ⟨T2, td, qa2, qc2, rfl, HI2, HT2.out.1, by have := HT2.out.2.1; have := HMU.out; show _ ≤ _; omega, HT2.out.2.2⟩
          case measure =>
            have h1 := HT2.out.2.1
            have h2 := HMS2.out
            have h3 := HMS.out
            have h4 := HLR.out
            simp only [mu, List.length_append, List.length_singleton] at h1
            show lenV (.slice qa2 td.length qc2) + 2 * othersAt _ gb 0 < lenV (.slice (some ⟨gq, 0, none⟩) (m + 1) qc) + 2 * othersAt _ gb 0
            simp only [lenV]
            omega


end Go.Proofs.Ytjhceoejblmihaa
