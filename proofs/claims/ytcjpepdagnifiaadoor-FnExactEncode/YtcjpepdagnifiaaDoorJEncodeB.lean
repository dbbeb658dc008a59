/- What a row's list of the table and of the one error gives: both lie as they are written. -/
import Derived.Test.YtcjpepdagnifiaaDoorJEncodeA
import Derived.Test.YtcjpepdagnifiaaDoorICrcWalks
import Derived.Test.YtcjpepdagnifiaaDoorOpBase
namespace Go.Proofs.YtcjpepdagnifiaaDoor
open Go.RowKit
set_option linter.unusedVariables false

theorem gTab : Tryd.prog.globalNamed "loop.example/g01412/impl.sumTable" = some 1 := by kernel_rfl
theorem gTabType : (Tryd.prog.globals[1]?).map (·.type) = some 129 := by kernel_rfl
theorem cellsTab : Tryd.prog.cellsOf 129 = 16 := by kernel_rfl
theorem cells32 : Tryd.prog.cellsOf 125 = 1 := by kernel_rfl
theorem tabEq : (Rows.laid_loop_example_g01412_impl_sumTable : DataW Unit) = Lib.tabData .u32 tabZ := by kernel_rfl
theorem tab_laid {W : World} {r : List (String × DataW Unit)} (h : laidMet Tryd.prog (("loop.example/g01412/impl.sumTable", Rows.laid_loop_example_g01412_impl_sumTable) :: r) W) : TabAt W := by
  rw [tabEq] at h
  exact tab_of (Lib.tabIs_of_head gTab gTabType Tryd.underlying129 Tryd.underlying125 cells32 cellsTab h)
theorem enc_of {W : World} (h : laidMet Tryd.prog [("loop.example/g01412/impl.sumTable", Rows.laid_loop_example_g01412_impl_sumTable), ("loop.example/g01412/impl.errEvent", Rows.laid_loop_example_g01412_impl_errEvent)] W) : ∃ ev, TabAt W ∧ EvE W ev := by
  obtain ⟨ev, E⟩ := ev_of h.tail
  exact ⟨ev, tab_laid h, E⟩

end Go.Proofs.YtcjpepdagnifiaaDoor

namespace Go.Proofs.YtcjpepdagnifiaaDoor
open Go.RowKit
set_option linter.unusedVariables false
set_option maxRecDepth 100000

/-- The first j events are ts, and P is the pen behind them. -/
def EncR (os : List OpD) (zs : List AnsD) : Nat → PenD → List (List UInt8) → Prop
  | 0, P, ts => P = ⟨0, []⟩ ∧ ts = []
  | j + 1, P, ts => ∃ (Q : PenD) (us : List (List UInt8)) (h1 : j < os.length) (h2 : j < zs.length), EncR os zs j Q us ∧ EvR Q os[j] zs[j] ∧ P = penB Q os[j] ∧ ts = us ++ [evT Q os[j] zs[j]]
theorem encR_uniq {os : List OpD} {zs : List AnsD} : ∀ {j : Nat} {P Q : PenD} {ts us : List (List UInt8)}, EncR os zs j P ts → EncR os zs j Q us → P = Q ∧ ts = us
  | 0, P, Q, ts, us, h, g => by
    obtain ⟨rfl, rfl⟩ := h
    obtain ⟨rfl, rfl⟩ := g
    exact ⟨rfl, rfl⟩
  | j + 1, P, Q, ts, us, h, g => by
    obtain ⟨P1, ts1, h1, h2, h3, -, rfl, rfl⟩ := h
    obtain ⟨Q1, us1, g1, g2, g3, -, rfl, rfl⟩ := g
    obtain ⟨rfl, rfl⟩ := encR_uniq h3 g3
    exact ⟨rfl, rfl⟩
theorem encR_down {os : List OpD} {zs : List AnsD} : ∀ {n j : Nat} {P : PenD} {ts : List (List UInt8)}, EncR os zs n P ts → j < n → ∃ (Q : PenD) (us : List (List UInt8)) (h1 : j < os.length) (h2 : j < zs.length), EncR os zs j Q us ∧ EvR Q os[j] zs[j]
  | n + 1, j, P, ts, h, hj => by
    obtain ⟨Q, us, h1, h2, h3, h4, -, -⟩ := h
    by_cases e : j = n
    · subst e; exact ⟨Q, us, h1, h2, h3, h4⟩
    · exact encR_down h3 (by omega)
/-- The text of all events: T, where each is written; else nothing. -/
structure EncT (os : List OpD) (zs : List AnsD) (T : List UInt8) (show' : List (List UInt8) → List UInt8) : Prop where
  len : os.length ≠ zs.length → T = []
  many : 400 ≤ os.length → T = []
  no : os.length = zs.length → ∀ (j : Nat) (h1 : j < os.length) (h2 : j < zs.length) (Q : PenD) (us : List (List UInt8)), EncR os zs j Q us → ¬ EvR Q os[j] zs[j] → T = []
  yes : os.length = zs.length → os.length < 400 → ∀ (Q : PenD) (us : List (List UInt8)), EncR os zs os.length Q us → T = show' us
theorem encT_is (os : List OpD) (zs : List AnsD) (show' : List (List UInt8) → List UInt8) : ∃ T, EncT os zs T show' := by
  by_cases h : os.length = zs.length ∧ os.length < 400 ∧ ∃ Q us, EncR os zs os.length Q us
  · obtain ⟨h1, h2, Q, us, h3⟩ := h
    refine ⟨show' us, fun g => absurd h1 g, fun g => by omega, fun _ j g1 g2 R vs g3 g4 => ?_, fun _ _ R vs g => ?_⟩
    · obtain ⟨R2, vs2, k1, k2, k3, k4⟩ := encR_down h3 g1
      obtain ⟨rfl, -⟩ := encR_uniq g3 k3
      exact absurd k4 g4
    · obtain ⟨-, rfl⟩ := encR_uniq h3 g
      rfl
  · exact ⟨[], fun _ => rfl, fun _ => rfl, fun _ _ _ _ _ _ _ _ => rfl, fun g1 g2 Q us g3 => absurd ⟨g1, g2, Q, us, g3⟩ h⟩
theorem encR_names {os : List OpD} {zs : List AnsD} : ∀ {j : Nat} {P : PenD} {ts : List (List UInt8)}, EncR os zs j P ts → P.sites.length ≤ j ∧ ts.length = j ∧ (∀ s ∈ P.sites, s.length ≤ 8) ∧ (∀ t ∈ ts, t.length ≤ 200)
  | 0, P, ts, h => by
    obtain ⟨rfl, rfl⟩ := h
    exact ⟨Nat.le_refl _, rfl, fun s hs => (nomatch hs), fun s hs => (nomatch hs)⟩
  | j + 1, P, ts, h => by
    obtain ⟨Q, us, h1, h2, h3, h4, rfl, rfl⟩ := h
    obtain ⟨k1, k2, k3, k4⟩ := encR_names h3
    refine ⟨?_, by simp [k2], fun s hs => ?_, fun t ht => ?_⟩
    · unfold penB
      simp only
      split
      · simp only [List.length_append, List.length_cons, List.length_nil]; omega
      · omega
    · unfold penB at hs
      simp only at hs
      split at hs
      · rcases List.mem_append.1 hs with hs | hs
        · exact k3 s hs
        · obtain rfl := List.mem_singleton.1 hs
          exact h4.1.2.2.2.2
      · exact k3 s hs
    · rcases List.mem_append.1 ht with ht | ht
      · exact k4 t ht
      · obtain rfl := List.mem_singleton.1 ht
        unfold evT ansT
        have := opT_length Q.last Q.sites os[j]
        have := varZ_length zs[j].code
        have := showZ_length (zs[j].val - os[j].a)
        have := varZ_length (zs[j].freed.length : Int)
        have := freedT_length zs[j].freed os[j].a
        have := h4.2.1.2.2.1
        simp only [List.length_append]
        omega
theorem evT_some {P : PenD} {o : OpD} {A : AnsD} (h : EvR P o A) : evT P o A ≠ [] := by
  have hk := h.1.1
  unfold evT opT
  intro e
  have e2 : showZ o.kind = [] := by
    have := List.append_eq_nil_iff.1 e
    exact (List.append_eq_nil_iff.1 this.1).1
  rw [showZ_in _ (by omega)] at e2
  exact varB_ne 6 _ e2

end Go.Proofs.YtcjpepdagnifiaaDoor

namespace Go.Proofs.YtcjpepdagnifiaaDoor
open Go.ChangeShapes Go.WideShapes Go.ChangeAt Go.RowKit Go.Deep
set_option linter.unusedVariables false
set_option maxRecDepth 100000

/-- An operation lies at place p of block g. -/
structure OpLie (w : World) (g p : Nat) (o : OpD) : Prop where
  c0 : w.cell? ⟨g, p, none⟩ = some (.int .i64 o.kind)
  c1 : w.cell? ⟨g, p + 1, none⟩ = some (.int .i64 o.a)
  c2 : w.cell? ⟨g, p + 2, none⟩ = some (.int .i64 o.b)
  c3 : w.cell? ⟨g, p + 3, none⟩ = some (.int .i64 o.c)
  c4 : w.cell? ⟨g, p + 4, none⟩ = some (.string (txt o.site))
theorem OpLie.keep {w w' : World} {g p : Nat} {o : OpD} (h : OpLie w g p o) (hk : ∀ k, w'.cell? ⟨g, k, none⟩ = w.cell? ⟨g, k, none⟩) : OpLie w' g p o :=
  ⟨(hk _).trans h.c0, (hk _).trans h.c1, (hk _).trans h.c2, (hk _).trans h.c3, (hk _).trans h.c4⟩
/-- A row of operations as one who only reads has it. -/
def RdQ (w : World) (a : Option Addr) (qs : List OpD) : Prop := ∀ j (h : j < qs.length), ∃ g off, a = some ⟨g, off, none⟩ ∧ g < w.heap.size ∧ OpLie w g (off + j * 5) qs[j]
theorem rdQ_later {w w' : World} {a : Option Addr} {qs : List OpD} (h : RdQ w a qs) (hb : Below w.heap.size w w') : RdQ w' a qs := by
  intro j hj
  obtain ⟨g, off, ha, hg, hc⟩ := h j hj
  exact ⟨g, off, ha, Nat.lt_of_lt_of_le hg hb.size, hc.keep (fun k => hb.cell (p := ⟨g, k, none⟩) hg)⟩

/-- What is left of a size behind operations. -/
def szQR : List OpD → Int → Int
  | [], left => left
  | o :: r, left => if left - (o.site.length : Int) < 0 then -1 else szQR r (left - (o.site.length : Int))
def szQ (qs : List OpD) (left : Int) : Int := if left - (qs.length : Int) < 0 then -1 else szQR qs (left - (qs.length : Int))
theorem szQR_le (qs : List OpD) : ∀ left : Int, -1 ≤ left → szQR qs left ≤ left ∧ -1 ≤ szQR qs left := by
  induction qs with
  | nil => intro left h; exact ⟨Int.le_refl _, h⟩
  | cons z r ih =>
    intro left h
    simp only [szQR]
    split
    · omega
    · have := ih (left - (z.site.length : Int)) (by omega); omega
theorem szQ_le (qs : List OpD) (left : Int) (h : -1 ≤ left) : szQ qs left ≤ left ∧ -1 ≤ szQ qs left := by
  unfold szQ; split
  · omega
  · have := szQR_le qs (left - (qs.length : Int)) (by omega); omega
theorem szQR_each (qs : List OpD) : ∀ left : Int, 0 ≤ szQR qs left → ∀ z ∈ qs, (z.site.length : Int) ≤ left := by
  induction qs with
  | nil => intro left _ z hz; simp at hz
  | cons y r ih =>
    intro left h z hz
    simp only [szQR] at h
    split at h
    · omega
    · rcases List.mem_cons.1 hz with rfl | hz
      · omega
      · have := ih _ h z hz; omega
theorem szQ_facts (qs : List OpD) (left : Int) (h : 0 ≤ szQ qs left) : (qs.length : Int) ≤ left ∧ ∀ z ∈ qs, (z.site.length : Int) ≤ left := by
  unfold szQ at h
  split at h
  · omega
  · refine ⟨by omega, fun z hz => ?_⟩
    have := szQR_each qs _ h z hz
    omega
theorem szQR_drop (qs : List OpD) (left : Int) (j : Nat) (h : j < qs.length) : szQR (qs.drop j) left = if left - (qs[j].site.length : Int) < 0 then -1 else szQR (qs.drop (j + 1)) (left - (qs[j].site.length : Int)) := by
  rw [List.drop_eq_getElem_cons h]; rfl

theorem szOpS_calls (w : World) (a : Option Addr) (cap : Nat) (qs : List OpD) (left : Int) (h : RdQ w a qs) (hn : qs.length ≤ 9223372036854775807) (hz : ∀ z ∈ qs, z.site.length ≤ 9223372036854775807) (h0 : 0 ≤ left) (h1 : left ≤ 1048576) :
    Calls Tryd.prog 16 #[.slice a qs.length cap, .int .i64 left] w fun e w' => e = .returned (.int .i64 (szQ qs left)) ∧ Below w.heap.size w w' := by
  have HA : Hid (RdQ w a qs) := h
  have HZ : Hid (∀ z ∈ qs, z.site.length ≤ 9223372036854775807) := hz
  have HD : Hid (∀ (l : Int) (j : Nat) (h : j < qs.length), szQR (qs.drop j) l = _) := fun l j h => szQR_drop qs l j h
  obtain ⟨n, hnn⟩ : ∃ n, qs.length = n := ⟨_, rfl⟩
  have Hn : Hid (qs.length = n) := hnn
  clear h hz
  by_cases hl : left - (n : Int) < 0
  · have HE : Hid (szQ qs left = -1) := by show _ = _; unfold szQ; rw [hnn, if_pos hl]
    rw [hnn] at hn ⊢
    clear hnn
    go_enter Tryd.func16, Tryd.ntmps16
    go_wp2
    go_ret
    exact ⟨ret_zz HE.out.symm, Below.refl _ _⟩
  · have HE : Hid (szQ qs left = szQR (qs.drop 0) (left - (n : Int))) := by show _ = _; unfold szQ; rw [hnn, if_neg hl, List.drop_zero]
    have HF : Hid (∀ l, szQR (qs.drop n) l = l) := by intro l; rw [← hnn, List.drop_length]; rfl
    rw [hnn] at hn ⊢
    have hl2 : (n : Int) ≤ left := by omega
    clear hnn hl
    go_enter Tryd.func16, Tryd.ntmps16
    go_wp2
    go_loopw [1, 5] (fun x i wr => ∃ (j : Nat) (l : Int), j ≤ n ∧ 0 ≤ l ∧ l ≤ left ∧ i = .int .i64 j ∧ x = .int .i64 l ∧ Hid (szQ qs left = szQR (qs.drop j) l) ∧ Below w.heap.size w wr) (fun _ i _ => n - (intOf i).toNat)
    case atStart => exact ⟨0, left - (n : Int), by omega, by omega, by omega, rfl, rfl, HE, Below.refl _ _⟩
    case round =>
      obtain ⟨j, l, hj, hl0, hl1, rfl, rfl, HJ, hb⟩ := hrel
      by_cases hlt : j < n
      · have hj2 : j < qs.length := by have := Hn.out; omega
        obtain ⟨g, off, rfl, -, hc⟩ := (rdQ_later HA.out hb) j hj2
        have hzl := HZ.out qs[j] (List.getElem_mem hj2)
        have HD2 : Hid (_ = _) := HD.out l j hj2
        generalize qs[j] = o at *
        have HSZ : Hid (∀ X, _) := fun X => szOp_calls X o l hzl hl0 (by omega)
        obtain ⟨c0, c1, c2, c3, c4⟩ := hc
        unfold opV at HSZ
        obtain ⟨ok, oa, ob, oc, ofl⟩ := o
        simp only at *
        generalize txt ofl = ot at *
        by_cases hneg : l - (ofl.length : Int) < 0
        · have HR : Hid (szQ qs left = -1) := by show _ = _; rw [HJ.out, HD2.out, if_pos hneg]
          rw [if_pos hneg] at HSZ
          clear hneg
          go_wp2_with fail
          refine (HSZ.out _).mono ?_
          rintro e w1 ⟨rfl, b1⟩
          have B1 := hb.trans (b1.mono hb.size)
          go_wp2
          go_ret
          exact ⟨ret_zz HR.out.symm, B1⟩
        · have HR : Hid (szQ qs left = szQR (qs.drop (j + 1)) (l - (ofl.length : Int))) := by show _ = _; rw [HJ.out, HD2.out, if_neg hneg]
          rw [if_neg hneg] at HSZ
          have hneg2 : 0 ≤ l - (ofl.length : Int) := by omega
          have hneg3 : l - (ofl.length : Int) ≤ left := by omega
          clear hneg
          generalize l - (ofl.length : Int) = l2 at *
          go_wp2_with fail
          refine (HSZ.out _).mono ?_
          rintro e w1 ⟨rfl, b1⟩
          have B1 := hb.trans (b1.mono hb.size)
          go_wp2
          go_roundw
          case rel => exact ⟨j + 1, l2, by omega, hneg2, hneg3, by go_num, rfl, HR, B1⟩
          case measure => simp [intOf]; omega
      · obtain rfl : j = n := by omega
        have HR : Hid (szQ qs left = l) := by show _ = _; rw [HJ.out, HF.out]
        go_wp2
        go_ret
        exact ⟨ret_zz HR.out.symm, hb⟩

theorem infoQ : (Tryd.prog.info? 27).map (fun i => (i.zero, i.size, i.bytes)) = some (some (.agg #[.int .i64 0, .int .i64 0, .int .i64 0, .int .i64 0, .string (txt [])]), 5, 48) := by kernel_rfl
theorem make_ops (n : Nat) (hn : n ≤ 1677721) (u : World) : ∃ u', (Instr.makeSlice 46 (.int .i64 (n : Int)) (.int .i64 (n : Int))).run Tryd.prog u = .ok (.slice (some ⟨u.heap.size, 0, none⟩) n n) u' ∧
    (∀ k, k < n * 5 → (∃ x, u'.cell? ⟨u.heap.size, k, none⟩ = some x) ∧ u'.frozen? ⟨u.heap.size, k, none⟩ = false) ∧ Below u.heap.size u u' ∧ u.heap.size < u'.heap.size := by
  obtain ⟨i0, hi, hz0, hz1, hz2⟩ := info_parts infoQ
  obtain ⟨u', h1, h2, h3⟩ := run_make_full (P := Tryd.prog) u u.heap.size 46 27 i0 _ 5 Tryd.underlying46 hi hz0 hz1 .i64 .i64 n (by rw [hz2]; omega) (by unfold maxLen; omega) (Nat.le_refl _)
  refine ⟨u', h1, ?_, (Below.refl _ _).grown h3 (Nat.le_refl _) (fun r hr => by cases hr), ?_⟩
  · intro k hk
    refine ⟨?_, World.ownsRow.frozenAt h2 k⟩
    rw [World.ownsRow.cellAt h2 k hk]
    have hl : k < (madeCells (Value.agg #[.int .i64 0, .int .i64 0, .int .i64 0, .int .i64 0, .string (txt [])]).cells (n * 5)).toList.length := by
      rw [Array.length_toList, size_madeCells]; exact hk
    exact ⟨_, List.getElem?_eq_getElem hl⟩
  · exact (World.ownsRow.lt h2 u.heap.size rfl).2

def setOp (w : World) (g p : Nat) (d : OpD) : World := ((((w.setCell ⟨g, p, none⟩ (.int .i64 d.kind)).setCell ⟨g, p + 1, none⟩ (.int .i64 d.a)).setCell ⟨g, p + 2, none⟩ (.int .i64 d.b)).setCell ⟨g, p + 3, none⟩ (.int .i64 d.c)).setCell ⟨g, p + 4, none⟩ (.string (txt d.site))
theorem setOp_other (w : World) (g p q : Nat) (d : OpD) (h : q < p ∨ p + 5 ≤ q) : (setOp w g p d).cell? ⟨g, q, none⟩ = w.cell? ⟨g, q, none⟩ := by
  unfold setOp
  rw [cell_far _ _ _ _ _ (by omega), cell_far _ _ _ _ _ (by omega), cell_far _ _ _ _ _ (by omega), cell_far _ _ _ _ _ (by omega), cell_far _ _ _ _ _ (by omega)]
theorem setOp_frozen (w : World) (g p : Nat) (d : OpD) (a : Addr) : (setOp w g p d).frozen? a = w.frozen? a := by
  unfold setOp
  rw [World.frozen?_setCell, World.frozen?_setCell, World.frozen?_setCell, World.frozen?_setCell, World.frozen?_setCell]
theorem setOp_size (w : World) (g p : Nat) (d : OpD) : (setOp w g p d).heap.size = w.heap.size := by unfold setOp; simp [World.setCell]
theorem setOp_below {B : Nat} {a w : World} (g p : Nat) (d : OpD) (h : Below B a w) (hg : B ≤ g) : Below B a (setOp w g p d) := by
  unfold setOp
  exact ((((h.setCell (p := ⟨g, p, none⟩) hg _).setCell (p := ⟨g, p + 1, none⟩) hg _).setCell (p := ⟨g, p + 2, none⟩) hg _).setCell (p := ⟨g, p + 3, none⟩) hg _).setCell (p := ⟨g, p + 4, none⟩) hg _
theorem some_setOp (w : World) (g p : Nat) (d : OpD) (a : Addr) (h : ∃ x, w.cell? a = some x) : ∃ x, (setOp w g p d).cell? a = some x := by
  unfold setOp
  exact some_set _ _ _ _ (some_set _ _ _ _ (some_set _ _ _ _ (some_set _ _ _ _ (some_set _ _ _ _ h))))
theorem setOp_at (w : World) (g p : Nat) (d : OpD) (h : ∀ k, k < 5 → ∃ u, w.cell? ⟨g, p + k, none⟩ = some u) : OpLie (setOp w g p d) g p d := by
  have same : ∀ (X : World) (q : Nat) (u : Value), (∃ v, X.cell? ⟨g, q, none⟩ = some v) → (X.setCell ⟨g, q, none⟩ u).cell? ⟨g, q, none⟩ = some u := fun X q u hX => by
    obtain ⟨v, hX⟩ := hX
    exact World.cell?_setCell_same X _ u hX
  have h0 := h 0 (by omega)
  have h1 := h 1 (by omega)
  have h2 := h 2 (by omega)
  have h3 := h 3 (by omega)
  have h4 := h 4 (by omega)
  rw [Nat.add_zero] at h0
  unfold setOp
  constructor
  · rw [cell_far _ _ _ _ _ (by omega), cell_far _ _ _ _ _ (by omega), cell_far _ _ _ _ _ (by omega), cell_far _ _ _ _ _ (by omega)]
    exact same _ _ _ h0
  · rw [cell_far _ _ _ _ _ (by omega), cell_far _ _ _ _ _ (by omega), cell_far _ _ _ _ _ (by omega)]
    exact same _ _ _ (some_set _ _ _ _ h1)
  · rw [cell_far _ _ _ _ _ (by omega), cell_far _ _ _ _ _ (by omega)]
    exact same _ _ _ (some_set _ _ _ _ (some_set _ _ _ _ h2))
  · rw [cell_far _ _ _ _ _ (by omega)]
    exact same _ _ _ (some_set _ _ _ _ (some_set _ _ _ _ (some_set _ _ _ _ h3)))
  · exact same _ _ _ (some_set _ _ _ _ (some_set _ _ _ _ (some_set _ _ _ _ (some_set _ _ _ _ h4))))

/-- The first j operations of a row lie in block g. -/
def LaidQ (w : World) (g : Nat) (qs : List OpD) (j : Nat) : Prop := ∀ i (h : i < qs.length), i < j → OpLie w g (i * 5) qs[i] ∧ ∀ k, k < 5 → w.frozen? ⟨g, i * 5 + k, none⟩ = false
theorem laidQ_rd {w : World} {g : Nat} {qs : List OpD} (h : LaidQ w g qs qs.length) (hg : g < w.heap.size) : RdQ w (some ⟨g, 0, none⟩) qs :=
  fun j hj => ⟨g, 0, rfl, hg, by rw [Nat.zero_add]; exact (h j hj hj).1⟩
theorem laidQ_later {w w' : World} {g j : Nat} {qs : List OpD} (h : LaidQ w g qs j) (hb : Below w.heap.size w w') (hg : g < w.heap.size) : LaidQ w' g qs j :=
  fun i hi hij => ⟨(h i hi hij).1.keep (fun k => hb.cell (p := ⟨g, k, none⟩) hg), fun k hk => (hb.frozen (p := ⟨g, i * 5 + k, none⟩) hg).trans ((h i hi hij).2 k hk)⟩
theorem laidQ_set {w : World} {g j : Nat} {qs : List OpD} (h : LaidQ w g qs j) (hj : j < qs.length) (hc : ∀ k, k < 5 → ∃ u, w.cell? ⟨g, j * 5 + k, none⟩ = some u) (hf : ∀ k, k < 5 → w.frozen? ⟨g, j * 5 + k, none⟩ = false) : LaidQ (setOp w g (j * 5) qs[j]) g qs (j + 1) := by
  intro i hi hij
  by_cases he : i = j
  · subst he
    exact ⟨setOp_at w g (i * 5) qs[i] hc, fun k hk => (setOp_frozen _ _ _ _ _).trans (hf k hk)⟩
  · have h1 := (h i hi (by omega)).1
    exact ⟨⟨by rw [setOp_other _ _ _ _ _ (by omega)]; exact h1.c0, by rw [setOp_other _ _ _ _ _ (by omega)]; exact h1.c1, by rw [setOp_other _ _ _ _ _ (by omega)]; exact h1.c2, by rw [setOp_other _ _ _ _ _ (by omega)]; exact h1.c3, by rw [setOp_other _ _ _ _ _ (by omega)]; exact h1.c4⟩, fun k hk => (setOp_frozen _ _ _ _ _).trans ((h i hi (by omega)).2 k hk)⟩

theorem toOpS_calls (w : World) (a : Option Addr) (cap : Nat) (qs : List OpD) (h : RdQ w a qs) (hn : qs.length ≤ 1677721) :
    Calls Tryd.prog 19 #[.slice a qs.length cap] w fun e w' => e = .returned (.slice (some ⟨w.heap.size, 0, none⟩) qs.length qs.length) ∧ LaidQ w' w.heap.size qs qs.length ∧ w.heap.size < w'.heap.size ∧ Below w.heap.size w w' := by
  have HA : Hid (RdQ w a qs) := h
  obtain ⟨u, hmk, hc0, B0, hlt0⟩ := make_ops qs.length hn w
  have HC0 : Hid (∀ k, k < qs.length * 5 → (∃ x, u.cell? ⟨w.heap.size, k, none⟩ = some x) ∧ u.frozen? ⟨w.heap.size, k, none⟩ = false) := hc0
  obtain ⟨n, hnn⟩ : ∃ n, qs.length = n := ⟨_, rfl⟩
  have Hn : Hid (qs.length = n) := hnn
  rw [hnn] at hn hmk HC0 ⊢
  clear h hc0 hnn
  go_enter Tryd.func19, Tryd.ntmps19
  go_wp2
  go_loopw [4] (fun i wr => ∃ j : Nat, j ≤ n ∧ i = .int .i64 j ∧ Hid (LaidQ wr w.heap.size qs j) ∧ Hid (∀ k, k < n * 5 → (∃ x, wr.cell? ⟨w.heap.size, k, none⟩ = some x) ∧ wr.frozen? ⟨w.heap.size, k, none⟩ = false) ∧ w.heap.size < wr.heap.size ∧ Below w.heap.size w wr) (fun i _ => n - (intOf i).toNat)
  case atStart => exact ⟨0, by omega, rfl, (fun i hi hij => by omega), HC0, hlt0, B0⟩
  case round =>
    obtain ⟨j, hj, rfl, HL, HC, hgl, hb⟩ := hrel
    by_cases hlt : j < n
    · have hj2 : j < qs.length := by have := Hn.out; omega
      obtain ⟨g, off, rfl, hg, hc⟩ := (rdQ_later HA.out hb) j hj2
      obtain ⟨d, hd⟩ : ∃ d, qs[j] = d := ⟨_, rfl⟩
      have Hd : Hid (qs[j] = d) := hd
      rw [hd] at hc
      clear hd
      obtain ⟨c0, c1, c2, c3, c4⟩ := hc
      obtain ⟨dk, da, db, dc, ds⟩ := d
      simp only at c0 c1 c2 c3 c4
      go_wp2_with fail
      refine (toOp_calls wr ⟨dk, da, db, dc, ds⟩).mono ?_
      rintro e w1 ⟨rfl, b1⟩
      have B1 := hb.trans (b1.mono hb.size)
      have HX : Hid (∀ k, k < n * 5 → (∃ x, w1.cell? ⟨w.heap.size, k, none⟩ = some x) ∧ w1.frozen? ⟨w.heap.size, k, none⟩ = false) := by
        intro k hk
        obtain ⟨⟨x, hx⟩, hfz⟩ := HC.out k hk
        exact ⟨⟨x, (b1.cell (p := ⟨w.heap.size, k, none⟩) hgl).trans hx⟩, (b1.frozen (p := ⟨w.heap.size, k, none⟩) hgl).trans hfz⟩
      have HL1 : Hid (LaidQ w1 w.heap.size qs j) := laidQ_later HL.out b1 hgl
      obtain ⟨⟨x0, e0⟩, f0⟩ := HX.out (j * 5) (by omega)
      obtain ⟨⟨x1, e1⟩, f1⟩ := HX.out (j * 5 + 1) (by omega)
      obtain ⟨⟨x2, e2⟩, f2⟩ := HX.out (j * 5 + 2) (by omega)
      obtain ⟨⟨x3, e3⟩, f3⟩ := HX.out (j * 5 + 3) (by omega)
      obtain ⟨⟨x4, e4⟩, f4⟩ := HX.out (j * 5 + 4) (by omega)
      have hgl1 : w.heap.size < w1.heap.size := Nat.lt_of_lt_of_le hgl b1.size
      have HS1 : Hid (LaidQ (setOp w1 w.heap.size (j * 5) ⟨dk, da, db, dc, ds⟩) w.heap.size qs (j + 1)) := by
        have h := laidQ_set HL1.out hj2 (fun k hk => (HX.out (j * 5 + k) (by omega)).1) (fun k hk => (HX.out (j * 5 + k) (by omega)).2)
        rw [Hd.out] at h
        exact h
      have HS2 : Hid (∀ k, k < n * 5 → (∃ x, (setOp w1 w.heap.size (j * 5) ⟨dk, da, db, dc, ds⟩).cell? ⟨w.heap.size, k, none⟩ = some x) ∧ (setOp w1 w.heap.size (j * 5) ⟨dk, da, db, dc, ds⟩).frozen? ⟨w.heap.size, k, none⟩ = false) :=
        fun k hk => ⟨some_setOp _ _ _ _ _ (HX.out k hk).1, (setOp_frozen _ _ _ _ _).trans (HX.out k hk).2⟩
      have HS3 : Hid (w.heap.size < (setOp w1 w.heap.size (j * 5) ⟨dk, da, db, dc, ds⟩).heap.size) := by show _ < _; rw [setOp_size]; exact hgl1
      have HS4 : Hid (Below w.heap.size w (setOp w1 w.heap.size (j * 5) ⟨dk, da, db, dc, ds⟩)) := setOp_below _ _ _ B1 (Nat.le_refl _)
      clear c0 c1 c2 c3 c4
      unfold opV
      go_wp2
      go_roundw
      case rel => exact ⟨j + 1, by omega, by go_num, HS1, HS2, HS3.out, HS4.out⟩
      case measure => simp [intOf]; omega
    · obtain rfl : j = n := by omega
      go_wp2
      go_ret
      exact ⟨rfl, HL.out, hgl, hb⟩

theorem eqOp_same (w : World) (o : OpD) :
    Calls Tryd.prog 9 #[opV o, opV o] w fun e w' => e = .returned (.bool true) ∧ Below w.heap.size w w' := by
  obtain ⟨k, a, b, c, s⟩ := o
  unfold opV
  simp only
  generalize txt s = t
  go_enter Tryd.func9, Tryd.ntmps9
  go_wp2
  go_ret
  exact ⟨rfl, ((Below.refl _ _).alloc (Nat.le_refl _) _).alloc (by simp) _⟩

theorem eqOpS_calls (w : World) (a b : Option Addr) (cap cap2 : Nat) (qs : List OpD) (h1 : RdQ w a qs) (h2 : RdQ w b qs) (hn : qs.length ≤ 16777216) :
    Calls Tryd.prog 22 #[.slice a qs.length cap, .slice b qs.length cap2] w fun e w' => e = .returned (.bool true) ∧ Below w.heap.size w w' := by
  have HA : Hid (RdQ w a qs) := h1
  have HB : Hid (RdQ w b qs) := h2
  obtain ⟨n, hnn⟩ : ∃ n, qs.length = n := ⟨_, rfl⟩
  have Hn : Hid (qs.length = n) := hnn
  rw [hnn] at hn ⊢
  clear h1 h2 hnn
  go_enter Tryd.func22, Tryd.ntmps22
  go_wp2
  go_loopw [5] (fun i wr => ∃ j : Nat, j ≤ n ∧ i = .int .i64 j ∧ Below w.heap.size w wr) (fun i _ => n - (intOf i).toNat)
  case atStart => exact ⟨0, by omega, rfl, Below.refl _ _⟩
  case round =>
    obtain ⟨j, hj, rfl, hb⟩ := hrel
    by_cases hlt : j < n
    · have hj2 : j < qs.length := by have := Hn.out; omega
      obtain ⟨g, off, rfl, -, hc⟩ := (rdQ_later HA.out hb) j hj2
      obtain ⟨g2, off2, rfl, -, hc2⟩ := (rdQ_later HB.out hb) j hj2
      generalize qs[j] = d at *
      have HE : Hid (∀ X, _) := fun X => eqOp_same X d
      unfold opV at HE
      obtain ⟨c0, c1, c2, c3, c4⟩ := hc
      obtain ⟨d0, d1, d2, d3, d4⟩ := hc2
      obtain ⟨dk, da, db, dc, ds⟩ := d
      simp only at *
      generalize txt ds = dt at *
      go_wp2_with fail
      go_region_with (go_at_call 9; refine (HE.out _).mono ?_; rintro e w1 ⟨rfl, b1⟩)
      all_goals
        have B1 : Below w.heap.size w w1 := hb.drew.trans (b1.mono hb.size)
        go_wp2
        go_roundw
        case rel => exact ⟨j + 1, by omega, by go_num, B1⟩
        case measure => simp [intOf]; omega
    · go_wp2
      go_ret
      exact ⟨rfl, hb⟩

section
variable {T : Type} {enc : TypeId × Value → T} {w : World} {held : Bool}

theorem opened_opc {fuel : Nat} {cs : List Value} {x : DataW T × List MemPlace} (h : DataW.trod enc Tryd.prog w 0 (fun _ => true) held fuel 73 cs = some x) : ∃ d : OpD, cs = [.int .i64 d.kind, .int .i64 d.a, .int .i64 d.b, .int .i64 d.c, .string (txt d.site)] ∧ SaneOp d := by
  obtain ⟨xs, n, _, _, hl, hlen, hf⟩ := DataW.trod_struct Tryd.underlying73 h
  have hl2 : cs.length = 5 := hl.trans (by kernel_rfl)
  match cs, hl2, xs, hlen with
  | [c0, c1, c2, c3, c4], _, [y0, y1, y2, y3, y4], _ =>
    have e3 : Tryd.prog.cellsOf 3 = 1 := by kernel_rfl
    have e2 : Tryd.prog.cellsOf 9 = 1 := by kernel_rfl
    have h0 := hf 0 { name := "Kind", type := 3, offset := 0, embedded := false, tag := "", pkgPath := "", byteOffset := 0 } rfl
    have h1 := hf 1 { name := "A", type := 3, offset := 1, embedded := false, tag := "", pkgPath := "", byteOffset := 8 } rfl
    have h2 := hf 2 { name := "B", type := 3, offset := 2, embedded := false, tag := "", pkgPath := "", byteOffset := 16 } rfl
    have h3 := hf 3 { name := "C", type := 3, offset := 3, embedded := false, tag := "", pkgPath := "", byteOffset := 24 } rfl
    have h4 := hf 4 { name := "Site", type := 9, offset := 4, embedded := false, tag := "", pkgPath := "", byteOffset := 32 } rfl
    simp only [e2, e3] at h0 h1 h2 h3 h4
    obtain ⟨m0, g0, _, v0⟩ := DataW.trod_int Tryd.underlying3 (x := y0) (by simpa using h0)
    obtain ⟨m1, g1, _, v1⟩ := DataW.trod_int Tryd.underlying3 (x := y1) (by simpa using h1)
    obtain ⟨m2, g2, _, v2⟩ := DataW.trod_int Tryd.underlying3 (x := y2) (by simpa using h2)
    obtain ⟨m3, g3, _, v3⟩ := DataW.trod_int Tryd.underlying3 (x := y3) (by simpa using h3)
    obtain ⟨m4, g4, _, v4⟩ := DataW.trod_string Tryd.underlying9 (x := y4) (by simpa using h4)
    exact ⟨⟨m0, m1, m2, m3, m4.data.toList⟩, by simp_all [txt], ⟨in64_wf v0, in64_wf v1, in64_wf v2, in64_wf v3, by unfold maxLen at v4; exact v4⟩⟩

theorem opened_ops {fuel : Nat} {cs : List Value} {x : DataW T × List MemPlace} (h : DataW.trod enc Tryd.prog w 0 (fun _ => true) held fuel 41 cs = some x) :
    ∃ a qs cap, cs = [.slice a qs.length cap] ∧ RdQ w a qs ∧ qs.length ≤ 9223372036854775807 ∧ ∀ d ∈ qs, SaneOp d := by
  rcases open_slice Tryd.underlying41 h with ⟨rfl, _⟩ | ⟨a, len, cap, m, n, D, Pl, rfl, _, hl, hm, hmm, _, hx⟩
  · exact ⟨none, [], 0, rfl, fun j hj => by simp at hj, by simp, by simp⟩
  · have hm2 : m = cap := by simpa using hmm
    have e2 : Tryd.prog.cellsOf 73 = 5 := by kernel_rfl
    rw [e2] at hx
    have hin : Inhabited OpD := ⟨⟨0, 0, 0, 0, []⟩⟩
    obtain ⟨f, hf⟩ := choose_lt (α := OpD) (n := len) (p := fun i d => SaneOp d ∧ ∀ k, k < 5 → w.cell? (Addr.add (a.add (i * 5)) k) = ([Value.int .i64 d.kind, .int .i64 d.a, .int .i64 d.b, .int .i64 d.c, .string (txt d.site)] : List Value)[k]?) (fun i hi => by
      obtain ⟨cs', h1, h2⟩ := hx i (by omega)
      obtain ⟨d, rfl, hd⟩ := opened_opc h2
      exact ⟨d, hd, (World.cells?_some h1).2.2⟩)
    unfold maxLen at hm
    have ht : ((List.range len).map f).length = len := by simp
    refine ⟨some a, (List.range len).map f, cap, by rw [ht], ?_, by omega, fun z hz => by
      obtain ⟨i, hi, rfl⟩ := List.mem_map.1 hz
      exact (hf i (List.mem_range.1 hi)).1⟩
    intro j hj
    rw [ht] at hj
    have hc0 := (hf 0 (by omega)).2 0 (by omega)
    obtain ⟨b, off, rfl⟩ : ∃ b off, a = ⟨b, off, none⟩ := by
      rw [Nat.zero_mul, show Addr.add (Addr.add a 0) 0 = a.add 0 from by rw [add_add]] at hc0
      exact plain_addr (v := .int .i64 (f 0).kind) hc0
    have q0 := (hf j hj).2 0 (by omega)
    have q1 := (hf j hj).2 1 (by omega)
    have q2 := (hf j hj).2 2 (by omega)
    have q3 := (hf j hj).2 3 (by omega)
    have q4 := (hf j hj).2 4 (by omega)
    rw [add_plain, add_plain] at q0 q1 q2 q3 q4
    simp at q0 q1 q2 q3 q4
    refine ⟨b, off, rfl, World.block_lt_of_cell? w _ q0, ?_⟩
    rw [List.getElem_map, List.getElem_range]
    exact ⟨q0, q1, q2, q3, q4⟩

end

end Go.Proofs.YtcjpepdagnifiaaDoor

namespace Go.Proofs.YtcjpepdagnifiaaDoor
open Go.ChangeShapes Go.WideShapes Go.ChangeAt Go.RowKit Go.Deep
set_option linter.unusedVariables false
set_option maxRecDepth 100000

/-- An answer lies at place p of block g, f the slice of what was freed. -/
structure AnLie (w : World) (g p : Nat) (o : AnsD) (f : Value) : Prop where
  c0 : w.cell? ⟨g, p, none⟩ = some (.int .i64 o.code)
  c1 : w.cell? ⟨g, p + 1, none⟩ = some (.int .i64 o.val)
  c2 : w.cell? ⟨g, p + 2, none⟩ = some f
theorem AnLie.keep {w w' : World} {g p : Nat} {o : AnsD} {f : Value} (h : AnLie w g p o f) (hk : ∀ k, w'.cell? ⟨g, k, none⟩ = w.cell? ⟨g, k, none⟩) : AnLie w' g p o f :=
  ⟨(hk _).trans h.c0, (hk _).trans h.c1, (hk _).trans h.c2⟩

/-- A row of answers as one who only reads has it. -/
def RdY (w : World) (a : Option Addr) (qs : List AnsD) : Prop := ∀ j (h : j < qs.length), ∃ g off f cap, a = some ⟨g, off, none⟩ ∧ g < w.heap.size ∧ AnLie w g (off + j * 3) qs[j] (.slice f qs[j].freed.length cap) ∧ RdI w f qs[j].freed
theorem rdY_later {w w' : World} {a : Option Addr} {qs : List AnsD} (h : RdY w a qs) (hb : Below w.heap.size w w') : RdY w' a qs := by
  intro j hj
  obtain ⟨g, off, f, cap, ha, hg, hc, hr⟩ := h j hj
  exact ⟨g, off, f, cap, ha, Nat.lt_of_lt_of_le hg hb.size, hc.keep (fun k => hb.cell (p := ⟨g, k, none⟩) hg), rdI_later hr hb⟩

/-- What is left of a size behind answers. -/
def szYR : List AnsD → Int → Int
  | [], left => left
  | o :: r, left => if left - (o.freed.length : Int) < 0 then -1 else szYR r (left - (o.freed.length : Int))
def szY (qs : List AnsD) (left : Int) : Int := if left - (qs.length : Int) < 0 then -1 else szYR qs (left - (qs.length : Int))
theorem szYR_le (qs : List AnsD) : ∀ left : Int, -1 ≤ left → szYR qs left ≤ left ∧ -1 ≤ szYR qs left := by
  induction qs with
  | nil => intro left h; exact ⟨Int.le_refl _, h⟩
  | cons z r ih =>
    intro left h
    simp only [szYR]
    split
    · omega
    · have := ih (left - (z.freed.length : Int)) (by omega); omega
theorem szY_le (qs : List AnsD) (left : Int) (h : -1 ≤ left) : szY qs left ≤ left ∧ -1 ≤ szY qs left := by
  unfold szY; split
  · omega
  · have := szYR_le qs (left - (qs.length : Int)) (by omega); omega
theorem szYR_each (qs : List AnsD) : ∀ left : Int, 0 ≤ szYR qs left → ∀ z ∈ qs, (z.freed.length : Int) ≤ left := by
  induction qs with
  | nil => intro left _ z hz; simp at hz
  | cons y r ih =>
    intro left h z hz
    simp only [szYR] at h
    split at h
    · omega
    · rcases List.mem_cons.1 hz with rfl | hz
      · omega
      · have := ih _ h z hz; omega
theorem szY_facts (qs : List AnsD) (left : Int) (h : 0 ≤ szY qs left) : (qs.length : Int) ≤ left ∧ ∀ z ∈ qs, (z.freed.length : Int) ≤ left := by
  unfold szY at h
  split at h
  · omega
  · refine ⟨by omega, fun z hz => ?_⟩
    have := szYR_each qs _ h z hz
    omega
theorem szYR_drop (qs : List AnsD) (left : Int) (j : Nat) (h : j < qs.length) : szYR (qs.drop j) left = if left - (qs[j].freed.length : Int) < 0 then -1 else szYR (qs.drop (j + 1)) (left - (qs[j].freed.length : Int)) := by
  rw [List.drop_eq_getElem_cons h]; rfl
theorem szAnswerS_calls (w : World) (a : Option Addr) (cap : Nat) (qs : List AnsD) (left : Int) (h : RdY w a qs) (hn : qs.length ≤ 9223372036854775807) (hz : ∀ z ∈ qs, z.freed.length ≤ 9223372036854775807) (h0 : 0 ≤ left) (h1 : left ≤ 1048576) :
    Calls Tryd.prog 17 #[.slice a qs.length cap, .int .i64 left] w fun e w' => e = .returned (.int .i64 (szY qs left)) ∧ Below w.heap.size w w' := by
  have HA : Hid (RdY w a qs) := h
  have HZ : Hid (∀ z ∈ qs, z.freed.length ≤ 9223372036854775807) := hz
  have HD : Hid (∀ (l : Int) (j : Nat) (h : j < qs.length), szYR (qs.drop j) l = _) := fun l j h => szYR_drop qs l j h
  obtain ⟨n, hnn⟩ : ∃ n, qs.length = n := ⟨_, rfl⟩
  have Hn : Hid (qs.length = n) := hnn
  clear h hz
  by_cases hl : left - (n : Int) < 0
  · have HE : Hid (szY qs left = -1) := by show _ = _; unfold szY; rw [hnn, if_pos hl]
    rw [hnn] at hn ⊢
    clear hnn
    go_enter Tryd.func17, Tryd.ntmps17
    go_wp2
    go_ret
    exact ⟨ret_zz HE.out.symm, Below.refl _ _⟩
  · have HE : Hid (szY qs left = szYR (qs.drop 0) (left - (n : Int))) := by show _ = _; unfold szY; rw [hnn, if_neg hl, List.drop_zero]
    have HF : Hid (∀ l, szYR (qs.drop n) l = l) := by intro l; rw [← hnn, List.drop_length]; rfl
    rw [hnn] at hn ⊢
    have hl2 : (n : Int) ≤ left := by omega
    clear hnn hl
    go_enter Tryd.func17, Tryd.ntmps17
    go_wp2
    go_loopw [1, 5] (fun x i wr => ∃ (j : Nat) (l : Int), j ≤ n ∧ 0 ≤ l ∧ l ≤ left ∧ i = .int .i64 j ∧ x = .int .i64 l ∧ Hid (szY qs left = szYR (qs.drop j) l) ∧ Below w.heap.size w wr) (fun _ i _ => n - (intOf i).toNat)
    case atStart => exact ⟨0, left - (n : Int), by omega, by omega, by omega, rfl, rfl, HE, Below.refl _ _⟩
    case round =>
      obtain ⟨j, l, hj, hl0, hl1, rfl, rfl, HJ, hb⟩ := hrel
      by_cases hlt : j < n
      · have hj2 : j < qs.length := by have := Hn.out; omega
        obtain ⟨g, off, f, fc, rfl, -, hc, hr⟩ := (rdY_later HA.out hb) j hj2
        have hzl := HZ.out qs[j] (List.getElem_mem hj2)
        have HD2 : Hid (_ = _) := HD.out l j hj2
        generalize qs[j] = o at *
        have HSZ : Hid (∀ _ : Unit, _) := fun (_ : Unit) => szAnswer_calls wr (.agg #[.int .i64 o.code, .int .i64 o.val, .slice f o.freed.length fc]) o l ⟨f, fc, rfl, hr⟩ hzl hl0 (by omega)
        clear hr
        obtain ⟨c0, c1, c2⟩ := hc
        obtain ⟨oc, ov, ofl⟩ := o
        simp only at *
        by_cases hneg : l - (ofl.length : Int) < 0
        · have HR : Hid (szY qs left = -1) := by show _ = _; rw [HJ.out, HD2.out, if_pos hneg]
          rw [if_pos hneg] at HSZ
          clear hneg
          go_wp2_with fail
          refine (HSZ.out ()).mono ?_
          rintro e w1 ⟨rfl, b1⟩
          have B1 := hb.trans (b1.mono hb.size)
          go_wp2
          go_ret
          exact ⟨ret_zz HR.out.symm, B1⟩
        · have HR : Hid (szY qs left = szYR (qs.drop (j + 1)) (l - (ofl.length : Int))) := by show _ = _; rw [HJ.out, HD2.out, if_neg hneg]
          rw [if_neg hneg] at HSZ
          have hneg2 : 0 ≤ l - (ofl.length : Int) := by omega
          have hneg3 : l - (ofl.length : Int) ≤ left := by omega
          clear hneg
          generalize l - (ofl.length : Int) = l2 at *
          go_wp2_with fail
          refine (HSZ.out ()).mono ?_
          rintro e w1 ⟨rfl, b1⟩
          have B1 := hb.trans (b1.mono hb.size)
          go_wp2
          go_roundw
          case rel => exact ⟨j + 1, l2, by omega, hneg2, hneg3, by go_num, rfl, HR, B1⟩
          case measure => simp [intOf]; omega
      · obtain rfl : j = n := by omega
        have HR : Hid (szY qs left = l) := by show _ = _; rw [HJ.out, HF.out]
        go_wp2
        go_ret
        exact ⟨ret_zz HR.out.symm, hb⟩

/-- An answer written at place p of block g. -/
def setAn (w : World) (g p : Nat) (o : AnsD) (f : Value) : World := ((w.setCell ⟨g, p, none⟩ (.int .i64 o.code)).setCell ⟨g, p + 1, none⟩ (.int .i64 o.val)).setCell ⟨g, p + 2, none⟩ f
theorem setAn_other (w : World) (g p q : Nat) (o : AnsD) (f : Value) (h : q < p ∨ p + 3 ≤ q) : (setAn w g p o f).cell? ⟨g, q, none⟩ = w.cell? ⟨g, q, none⟩ := by
  unfold setAn
  rw [cell_far _ _ _ _ _ (by omega), cell_far _ _ _ _ _ (by omega), cell_far _ _ _ _ _ (by omega)]
theorem setAn_frozen (w : World) (g p : Nat) (o : AnsD) (f : Value) (a : Addr) : (setAn w g p o f).frozen? a = w.frozen? a := by
  unfold setAn; simp only [World.frozen?_setCell]
theorem setAn_at (w : World) (g p : Nat) (o : AnsD) (f : Value) (h : ∀ k, k < 3 → ∃ u, w.cell? ⟨g, p + k, none⟩ = some u) : AnLie (setAn w g p o f) g p o f := by
  have same : ∀ (X : World) (q : Nat) (u : Value), (∃ v, X.cell? ⟨g, q, none⟩ = some v) → (X.setCell ⟨g, q, none⟩ u).cell? ⟨g, q, none⟩ = some u := fun X q u hX => by
    obtain ⟨v, hX⟩ := hX
    exact World.cell?_setCell_same X _ u hX
  have h0 := h 0 (by omega)
  have h1 := h 1 (by omega)
  have h2 := h 2 (by omega)
  rw [Nat.add_zero] at h0
  unfold setAn
  constructor
  · rw [cell_far _ _ _ _ _ (by omega), cell_far _ _ _ _ _ (by omega)]
    exact same _ _ _ h0
  · rw [cell_far _ _ _ _ _ (by omega)]
    exact same _ _ _ (some_set _ _ _ _ h1)
  · exact same _ _ _ (some_set _ _ _ _ (some_set _ _ _ _ h2))
theorem setAn_own {w : World} {B : Nat} {v : Value} {zs : List Int} (g p : Nat) (o : AnsD) (f : Value) (h : ownI w B v zs) (hg : g < B) : ownI (setAn w g p o f) B v zs := by
  unfold setAn
  iterate 3 refine ownI_far _ _ ?_ hg
  exact h
theorem setAn_below {B : Nat} {a w : World} (g p : Nat) (o : AnsD) (f : Value) (h : Below B a w) (hg : B ≤ g) : Below B a (setAn w g p o f) := by
  unfold setAn
  iterate 3 refine Below.setCell ?_ hg _
  exact h
theorem setAn_size (w : World) (g p : Nat) (o : AnsD) (f : Value) : (setAn w g p o f).heap.size = w.heap.size := by
  unfold setAn; simp [World.setCell]
theorem infoY : (Tryd.prog.info? 30).map (fun i => (i.zero, i.size, i.bytes)) = some (some (.agg #[.int .i64 0, .int .i64 0, .slice none 0 0]), 3, 40) := by kernel_rfl

theorem make_anss (n : Nat) (hn : n ≤ 1677721) (u : World) : ∃ u', (Instr.makeSlice 48 (.int .i64 (n : Int)) (.int .i64 (n : Int))).run Tryd.prog u = .ok (.slice (some ⟨u.heap.size, 0, none⟩) n n) u' ∧
    (∀ k, k < n * 3 → (∃ x, u'.cell? ⟨u.heap.size, k, none⟩ = some x) ∧ u'.frozen? ⟨u.heap.size, k, none⟩ = false) ∧ Below u.heap.size u u' ∧ u.heap.size < u'.heap.size := by
  obtain ⟨i0, hi, hz0, hz1, hz2⟩ := info_parts infoY
  obtain ⟨u', h1, h2, h3⟩ := run_make_full (P := Tryd.prog) u u.heap.size 48 30 i0 _ 3 Tryd.underlying48 hi hz0 hz1 .i64 .i64 n (by rw [hz2]; omega) (by unfold maxLen; omega) (Nat.le_refl _)
  refine ⟨u', h1, ?_, (Below.refl _ _).grown h3 (Nat.le_refl _) (fun r hr => by cases hr), ?_⟩
  · intro k hk
    refine ⟨?_, World.ownsRow.frozenAt h2 k⟩
    rw [World.ownsRow.cellAt h2 k hk]
    have hl : k < (madeCells (Value.agg #[.int .i64 0, .int .i64 0, .slice none 0 0]).cells (n * 3)).toList.length := by
      rw [Array.length_toList, size_madeCells]; exact hk
    exact ⟨_, List.getElem?_eq_getElem hl⟩
  · exact (World.ownsRow.lt h2 u.heap.size rfl).2

/-- The first j answers of a row lie in block g, each with a row of its own for its fields behind g. -/
def LaidY (w : World) (g : Nat) (qs : List AnsD) (j : Nat) : Prop := ∀ i (h : i < qs.length), i < j → ∃ f, AnLie w g (i * 3) qs[i] f ∧ ownI w (g + 1) f qs[i].freed ∧ ∀ k, k < 3 → w.frozen? ⟨g, i * 3 + k, none⟩ = false
theorem laidY_rd {w : World} {g : Nat} {qs : List AnsD} (h : LaidY w g qs qs.length) (hg : g < w.heap.size) : RdY w (some ⟨g, 0, none⟩) qs := by
  intro j hj
  obtain ⟨f, h1, h2, -⟩ := h j hj hj
  obtain ⟨a, cap, rfl, h3⟩ := rdI_own' h2
  exact ⟨g, 0, a, cap, rfl, hg, by rw [Nat.zero_add]; exact h1, h3⟩
theorem laidY_later {w w' : World} {g j : Nat} {qs : List AnsD} (h : LaidY w g qs j) (hb : Below w.heap.size w w') (hg : g < w.heap.size) : LaidY w' g qs j := by
  intro i hi hij
  obtain ⟨f, h1, h2, h3⟩ := h i hi hij
  exact ⟨f, h1.keep (fun k => hb.cell (p := ⟨g, k, none⟩) hg), ownI_later h2 hb, fun k hk => (hb.frozen (p := ⟨g, i * 3 + k, none⟩) hg).trans (h3 k hk)⟩
theorem laidY_set {w : World} {g j : Nat} {qs : List AnsD} {f : Value} (h : LaidY w g qs j) (hj : j < qs.length) (hc : ∀ k, k < 3 → ∃ u, w.cell? ⟨g, j * 3 + k, none⟩ = some u) (ho : ownI w (g + 1) f qs[j].freed) (hf : ∀ k, k < 3 → w.frozen? ⟨g, j * 3 + k, none⟩ = false) : LaidY (setAn w g (j * 3) qs[j] f) g qs (j + 1) := by
  intro i hi hij
  by_cases he : i = j
  · subst he
    exact ⟨f, setAn_at w g (i * 3) qs[i] f hc, setAn_own g _ _ _ ho (by omega), fun k hk => by rw [setAn_frozen]; exact hf k hk⟩
  · obtain ⟨f2, h1, h2, h3⟩ := h i hi (by omega)
    refine ⟨f2, ⟨?_, ?_, ?_⟩, setAn_own g _ _ _ h2 (by omega), fun k hk => by rw [setAn_frozen]; exact h3 k hk⟩
    all_goals rw [setAn_other _ _ _ _ _ _ (by omega)]
    · exact h1.c0
    · exact h1.c1
    · exact h1.c2

theorem some_setAn (w : World) (g p : Nat) (o : AnsD) (f : Value) (a : Addr) (h : ∃ x, w.cell? a = some x) : ∃ x, (setAn w g p o f).cell? a = some x := by
  unfold setAn
  iterate 3 refine some_set _ _ _ _ ?_
  exact h

theorem toAnswerS_calls (w : World) (a : Option Addr) (cap : Nat) (qs : List AnsD) (h : RdY w a qs) (hn : qs.length ≤ 1677721) (hz : ∀ z ∈ qs, z.freed.length ≤ 16777216) :
    Calls Tryd.prog 20 #[.slice a qs.length cap] w fun e w' => e = .returned (.slice (some ⟨w.heap.size, 0, none⟩) qs.length qs.length) ∧ LaidY w' w.heap.size qs qs.length ∧ w.heap.size < w'.heap.size ∧ Below w.heap.size w w' := by
  have HA : Hid (RdY w a qs) := h
  have HZ : Hid (∀ z ∈ qs, z.freed.length ≤ 16777216) := hz
  obtain ⟨u, hmk, hc0, B0, hlt0⟩ := make_anss qs.length hn w
  have HC0 : Hid (∀ k, k < qs.length * 3 → (∃ x, u.cell? ⟨w.heap.size, k, none⟩ = some x) ∧ u.frozen? ⟨w.heap.size, k, none⟩ = false) := hc0
  obtain ⟨n, hnn⟩ : ∃ n, qs.length = n := ⟨_, rfl⟩
  have Hn : Hid (qs.length = n) := hnn
  rw [hnn] at hn hmk HC0 ⊢
  clear h hz hc0 hnn
  go_enter Tryd.func20, Tryd.ntmps20
  go_wp2
  go_loopw [4] (fun i wr => ∃ j : Nat, j ≤ n ∧ i = .int .i64 j ∧ Hid (LaidY wr w.heap.size qs j) ∧ Hid (∀ k, k < n * 3 → (∃ x, wr.cell? ⟨w.heap.size, k, none⟩ = some x) ∧ wr.frozen? ⟨w.heap.size, k, none⟩ = false) ∧ w.heap.size < wr.heap.size ∧ Below w.heap.size w wr) (fun i _ => n - (intOf i).toNat)
  case atStart => exact ⟨0, by omega, rfl, (fun i hi hij => by omega), HC0, hlt0, B0⟩
  case round =>
    obtain ⟨j, hj, rfl, HL, HC, hgl, hb⟩ := hrel
    by_cases hlt : j < n
    · have hj2 : j < qs.length := by have := Hn.out; omega
      obtain ⟨g, off, f, fc, rfl, hg, hc, hr⟩ := (rdY_later HA.out hb) j hj2
      have hzl := HZ.out qs[j] (List.getElem_mem hj2)
      obtain ⟨o, ho⟩ : ∃ o, qs[j] = o := ⟨_, rfl⟩
      have Ho : Hid (qs[j] = o) := ho
      rw [ho] at hc hr hzl
      clear ho
      obtain ⟨c0, c1, c2⟩ := hc
      go_wp2_with fail
      refine (toAnswer_calls wr (.agg #[.int .i64 o.code, .int .i64 o.val, .slice f o.freed.length fc]) o ⟨f, fc, rfl, hr⟩ hzl).mono ?_
      rintro e w1 ⟨va, vc, rfl, O1, b1⟩
      have B1 := hb.trans (b1.mono hb.size)
      have HX : Hid (∀ k, k < n * 3 → (∃ x, w1.cell? ⟨w.heap.size, k, none⟩ = some x) ∧ w1.frozen? ⟨w.heap.size, k, none⟩ = false) := by
        intro k hk
        obtain ⟨⟨x, hx⟩, hfz⟩ := HC.out k hk
        exact ⟨⟨x, (b1.cell (p := ⟨w.heap.size, k, none⟩) hgl).trans hx⟩, (b1.frozen (p := ⟨w.heap.size, k, none⟩) hgl).trans hfz⟩
      have HL1 : Hid (LaidY w1 w.heap.size qs j) := laidY_later HL.out b1 hgl
      have HO1 : Hid (ownI w1 (w.heap.size + 1) (.slice va o.freed.length vc) o.freed) := ownI_mono O1 (by omega)
      obtain ⟨⟨x0, e0⟩, f0⟩ := HX.out (j * 3) (by omega)
      obtain ⟨⟨x1, e1⟩, f1⟩ := HX.out (j * 3 + 1) (by omega)
      obtain ⟨⟨x2, e2⟩, f2⟩ := HX.out (j * 3 + 2) (by omega)
      have hgl1 : w.heap.size < w1.heap.size := Nat.lt_of_lt_of_le hgl b1.size
      have HS1 : Hid (LaidY (setAn w1 w.heap.size (j * 3) o (.slice va o.freed.length vc)) w.heap.size qs (j + 1)) := by
        have h := laidY_set (f := .slice va o.freed.length vc) HL1.out hj2 (fun k hk => (HX.out (j * 3 + k) (by omega)).1) (by rw [Ho.out]; exact HO1.out) (fun k hk => (HX.out (j * 3 + k) (by omega)).2)
        rw [Ho.out] at h
        exact h
      have HS2 : Hid (∀ k, k < n * 3 → (∃ x, (setAn w1 w.heap.size (j * 3) o (.slice va o.freed.length vc)).cell? ⟨w.heap.size, k, none⟩ = some x) ∧ (setAn w1 w.heap.size (j * 3) o (.slice va o.freed.length vc)).frozen? ⟨w.heap.size, k, none⟩ = false) :=
        fun k hk => ⟨some_setAn _ _ _ _ _ _ (HX.out k hk).1, by rw [setAn_frozen]; exact (HX.out k hk).2⟩
      have HS3 : Hid (w.heap.size < (setAn w1 w.heap.size (j * 3) o (.slice va o.freed.length vc)).heap.size) := by show _ < _; rw [setAn_size]; exact hgl1
      have HS4 : Hid (Below w.heap.size w (setAn w1 w.heap.size (j * 3) o (.slice va o.freed.length vc))) := setAn_below _ _ _ _ B1 (Nat.le_refl _)
      clear O1 c0 c1 c2 hr
      go_wp2
      go_roundw
      case rel => exact ⟨j + 1, by omega, by go_num, HS1, HS2, HS3.out, HS4.out⟩
      case measure => simp [intOf]; omega
    · obtain rfl : j = n := by omega
      go_wp2
      go_ret
      exact ⟨rfl, HL.out, hgl, hb⟩

theorem eqAnswerS_calls (w : World) (a b : Option Addr) (cap cap2 : Nat) (qs : List AnsD) (h1 : RdY w a qs) (h2 : RdY w b qs) (hn : qs.length ≤ 16777216) (hz : ∀ z ∈ qs, z.freed.length ≤ 16777216) :
    Calls Tryd.prog 23 #[.slice a qs.length cap, .slice b qs.length cap2] w fun e w' => e = .returned (.bool true) ∧ Below w.heap.size w w' := by
  have HA : Hid (RdY w a qs) := h1
  have HB : Hid (RdY w b qs) := h2
  have HZ : Hid (∀ z ∈ qs, z.freed.length ≤ 16777216) := hz
  obtain ⟨n, hnn⟩ : ∃ n, qs.length = n := ⟨_, rfl⟩
  have Hn : Hid (qs.length = n) := hnn
  rw [hnn] at hn ⊢
  clear h1 h2 hz hnn
  go_enter Tryd.func23, Tryd.ntmps23
  go_wp2
  go_loopw [5] (fun i wr => ∃ j : Nat, j ≤ n ∧ i = .int .i64 j ∧ Below w.heap.size w wr) (fun i _ => n - (intOf i).toNat)
  case atStart => exact ⟨0, by omega, rfl, Below.refl _ _⟩
  case round =>
    obtain ⟨j, hj, rfl, hb⟩ := hrel
    by_cases hlt : j < n
    · have hj2 : j < qs.length := by have := Hn.out; omega
      obtain ⟨g, off, f, fc, rfl, -, hc, hr⟩ := (rdY_later HA.out hb) j hj2
      obtain ⟨g2, off2, f2, fc2, rfl, -, hc2, hr2⟩ := (rdY_later HB.out hb) j hj2
      have hzl := HZ.out qs[j] (List.getElem_mem hj2)
      generalize qs[j] = o at *
      have HE : Hid (∀ X, Below wr.heap.size wr X → _) := fun X hX => eqAnswer_calls X (.agg #[.int .i64 o.code, .int .i64 o.val, .slice f o.freed.length fc]) (.agg #[.int .i64 o.code, .int .i64 o.val, .slice f2 o.freed.length fc2]) o ⟨f, fc, rfl, rdI_later hr hX⟩ ⟨f2, fc2, rfl, rdI_later hr2 hX⟩ hzl
      obtain ⟨c0, c1, c2⟩ := hc
      obtain ⟨d0, d1, d2⟩ := hc2
      have HD : Hid (Below wr.heap.size wr wr.drew) := (Below.refl _ _).drew
      go_wp2_with fail
      go_region_with (go_at_call 10; refine (HE.out _ HD.out).mono ?_; rintro e w1 ⟨rfl, b1⟩)
      all_goals
        have B1 : Below w.heap.size w w1 := hb.drew.trans (b1.mono hb.size)
        go_wp2
        go_roundw
        case rel => exact ⟨j + 1, by omega, by go_num, B1⟩
        case measure => simp [intOf]; omega
    · go_wp2
      go_ret
      exact ⟨rfl, hb⟩

section
variable {T : Type} {enc : TypeId × Value → T} {w : World} {held : Bool}

theorem opened_ansc {fuel : Nat} {cs : List Value} {x : DataW T × List MemPlace} (h : DataW.trod enc Tryd.prog w 0 (fun _ => true) held fuel 75 cs = some x) :
    ∃ (o : AnsD) (f : Option Addr) (cap : Nat), cs = [.int .i64 o.code, .int .i64 o.val, .slice f o.freed.length cap] ∧ RdI w f o.freed ∧ SaneA o := by
  obtain ⟨xs, n, _, _, hl, hlen, hf⟩ := DataW.trod_struct Tryd.underlying75 h
  have hl2 : cs.length = 3 := hl.trans (by kernel_rfl)
  match cs, hl2, xs, hlen with
  | [c0, c1, c2], _, [y0, y1, y2], _ =>
    have e3 : Tryd.prog.cellsOf 3 = 1 := by kernel_rfl
    have e2 : Tryd.prog.cellsOf 28 = 1 := by kernel_rfl
    have h0 := hf 0 { name := "Code", type := 3, offset := 0, embedded := false, tag := "", pkgPath := "", byteOffset := 0 } rfl
    have h1 := hf 1 { name := "Val", type := 3, offset := 1, embedded := false, tag := "", pkgPath := "", byteOffset := 8 } rfl
    have h2 := hf 2 { name := "Freed", type := 28, offset := 2, embedded := false, tag := "", pkgPath := "", byteOffset := 16 } rfl
    simp only [e2, e3] at h0 h1 h2
    obtain ⟨m0, g0, _, v0⟩ := DataW.trod_int Tryd.underlying3 (x := y0) (by simpa using h0)
    obtain ⟨m1, g1, _, v1⟩ := DataW.trod_int Tryd.underlying3 (x := y1) (by simpa using h1)
    obtain ⟨ab, zs, cb, g2, ri, l1, v2⟩ := opened_ints (x := y2) (by simpa using h2)
    exact ⟨⟨m0, m1, zs⟩, ab, cb, by simp_all, ri, ⟨in64_wf v0, in64_wf v1, l1, v2⟩⟩

theorem opened_anss {fuel : Nat} {cs : List Value} {x : DataW T × List MemPlace} (h : DataW.trod enc Tryd.prog w 0 (fun _ => true) held fuel 42 cs = some x) :
    ∃ a qs cap, cs = [.slice a qs.length cap] ∧ RdY w a qs ∧ qs.length ≤ 9223372036854775807 ∧ ∀ z ∈ qs, SaneA z := by
  rcases open_slice Tryd.underlying42 h with ⟨rfl, _⟩ | ⟨a, len, cap, m, n, D, Pl, rfl, _, hl, hm, hmm, _, hx⟩
  · exact ⟨none, [], 0, rfl, fun j hj => by simp at hj, by simp, by simp⟩
  · have hm2 : m = cap := by simpa using hmm
    have e2 : Tryd.prog.cellsOf 75 = 3 := by kernel_rfl
    rw [e2] at hx
    have hin : Inhabited AnsD := ⟨⟨0, 0, []⟩⟩
    obtain ⟨f, hf⟩ := choose_lt (α := AnsD) (n := len) (p := fun i o => SaneA o ∧ ∃ (fa : Option Addr) (fc : Nat), RdI w fa o.freed ∧ ∀ k, k < 3 → w.cell? (Addr.add (a.add (i * 3)) k) = ([Value.int .i64 o.code, .int .i64 o.val, .slice fa o.freed.length fc] : List Value)[k]?) (fun i hi => by
      obtain ⟨cs', h1, h2⟩ := hx i (by omega)
      obtain ⟨o, fa, fc, rfl, hr, hwf⟩ := opened_ansc h2
      exact ⟨o, hwf, fa, fc, hr, (World.cells?_some h1).2.2⟩)
    unfold maxLen at hm
    have ht : ((List.range len).map f).length = len := by simp
    refine ⟨some a, (List.range len).map f, cap, by rw [ht], ?_, by omega, ?_⟩
    · intro j hj
      rw [ht] at hj
      obtain ⟨_, _, _, _, hc0⟩ := hf 0 (by omega)
      have hc0 := hc0 0 (by omega)
      obtain ⟨b, off, rfl⟩ : ∃ b off, a = ⟨b, off, none⟩ := by
        rw [Nat.zero_mul, show Addr.add (Addr.add a 0) 0 = a.add 0 from by rw [add_add]] at hc0
        exact plain_addr (v := .int .i64 (f 0).code) hc0
      obtain ⟨_, fa, fc, hr, q⟩ := hf j hj
      have q0 := q 0 (by omega)
      have q1 := q 1 (by omega)
      have q2 := q 2 (by omega)
      rw [add_plain, add_plain] at q0 q1 q2
      simp at q0 q1 q2
      refine ⟨b, off, fa, fc, rfl, World.block_lt_of_cell? w _ q0, ?_⟩
      rw [List.getElem_map, List.getElem_range]
      exact ⟨⟨q0, q1, q2⟩, hr⟩
    · intro z hz
      obtain ⟨i, hi, rfl⟩ := List.mem_map.1 hz
      exact (hf i (List.mem_range.1 hi)).1

end

end Go.Proofs.YtcjpepdagnifiaaDoor
