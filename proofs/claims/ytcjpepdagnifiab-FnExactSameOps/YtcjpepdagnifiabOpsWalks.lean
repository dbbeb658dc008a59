/- Rows of operations as the laws have them: what szOpS, toOpS and eqOpS do; an argument that is such a row, opened. -/
import Derived.Test.YtcjpepdagnifiabOpBase
namespace Go.Proofs.Ytcjpepdagnifiab
open Go.ChangeShapes Go.WideShapes Go.ChangeAt Go.RowKit Go.Deep
set_option linter.unusedVariables false
set_option maxRecDepth 100000

/-- An operation lies at place p of block g. -/
structure OpLie (w : World) (g p : Nat) (o : OpD) : Prop where
  c0 : w.cell? ⟨g, p, none⟩ = some (.int .i64 o.kind)
  c1 : w.cell? ⟨g, p + 1, none⟩ = some (.int .i64 o.a)
  c2 : w.cell? ⟨g, p + 2, none⟩ = some (.int .i64 o.b)
  c3 : w.cell? ⟨g, p + 3, none⟩ = some (.int .i64 o.c)
  c4 : w.cell? ⟨g, p + 4, none⟩ = some (.string (txt o.site))
theorem OpLie.keep {w w' : World} {g p : Nat} {o : OpD} (h : OpLie w g p o) (hk : ∀ k, w'.cell? ⟨g, k, none⟩ = w.cell? ⟨g, k, none⟩) : OpLie w' g p o :=
  ⟨(hk _).trans h.c0, (hk _).trans h.c1, (hk _).trans h.c2, (hk _).trans h.c3, (hk _).trans h.c4⟩
/-- A row of operations as one who only reads has it. -/
def RdQ (w : World) (a : Option Addr) (qs : List OpD) : Prop := ∀ j (h : j < qs.length), ∃ g off, a = some ⟨g, off, none⟩ ∧ g < w.heap.size ∧ OpLie w g (off + j * 5) qs[j]
theorem rdQ_later {w w' : World} {a : Option Addr} {qs : List OpD} (h : RdQ w a qs) (hb : Below w.heap.size w w') : RdQ w' a qs := by
  intro j hj
  obtain ⟨g, off, ha, hg, hc⟩ := h j hj
  exact ⟨g, off, ha, Nat.lt_of_lt_of_le hg hb.size, hc.keep (fun k => hb.cell (p := ⟨g, k, none⟩) hg)⟩

/-- What is left of a size behind operations. -/
def szQR : List OpD → Int → Int
  | [], left => left
  | o :: r, left => if left - (o.site.length : Int) < 0 then -1 else szQR r (left - (o.site.length : Int))
def szQ (qs : List OpD) (left : Int) : Int := if left - (qs.length : Int) < 0 then -1 else szQR qs (left - (qs.length : Int))
theorem szQR_le (qs : List OpD) : ∀ left : Int, -1 ≤ left → szQR qs left ≤ left ∧ -1 ≤ szQR qs left := by
  induction qs with
  | nil => intro left h; exact ⟨Int.le_refl _, h⟩
  | cons z r ih =>
    intro left h
    simp only [szQR]
    split
    · omega
    · have := ih (left - (z.site.length : Int)) (by omega); omega
theorem szQ_le (qs : List OpD) (left : Int) (h : -1 ≤ left) : szQ qs left ≤ left ∧ -1 ≤ szQ qs left := by
  unfold szQ; split
  · omega
  · have := szQR_le qs (left - (qs.length : Int)) (by omega); omega
theorem szQR_each (qs : List OpD) : ∀ left : Int, 0 ≤ szQR qs left → ∀ z ∈ qs, (z.site.length : Int) ≤ left := by
  induction qs with
  | nil => intro left _ z hz; simp at hz
  | cons y r ih =>
    intro left h z hz
    simp only [szQR] at h
    split at h
    · omega
    · rcases List.mem_cons.1 hz with rfl | hz
      · omega
      · have := ih _ h z hz; omega
theorem szQ_facts (qs : List OpD) (left : Int) (h : 0 ≤ szQ qs left) : (qs.length : Int) ≤ left ∧ ∀ z ∈ qs, (z.site.length : Int) ≤ left := by
  unfold szQ at h
  split at h
  · omega
  · refine ⟨by omega, fun z hz => ?_⟩
    have := szQR_each qs _ h z hz
    omega
theorem szQR_drop (qs : List OpD) (left : Int) (j : Nat) (h : j < qs.length) : szQR (qs.drop j) left = if left - (qs[j].site.length : Int) < 0 then -1 else szQR (qs.drop (j + 1)) (left - (qs[j].site.length : Int)) := by
  rw [List.drop_eq_getElem_cons h]; rfl

theorem szOpS_calls (w : World) (a : Option Addr) (cap : Nat) (qs : List OpD) (left : Int) (h : RdQ w a qs) (hn : qs.length ≤ 9223372036854775807) (hz : ∀ z ∈ qs, z.site.length ≤ 9223372036854775807) (h0 : 0 ≤ left) (h1 : left ≤ 1048576) :
    Calls Try.prog 4 #[.slice a qs.length cap, .int .i64 left] w fun e w' => e = .returned (.int .i64 (szQ qs left)) ∧ Below w.heap.size w w' := by
  have HA : Hid (RdQ w a qs) := h
  have HZ : Hid (∀ z ∈ qs, z.site.length ≤ 9223372036854775807) := hz
  have HD : Hid (∀ (l : Int) (j : Nat) (h : j < qs.length), szQR (qs.drop j) l = _) := fun l j h => szQR_drop qs l j h
  obtain ⟨n, hnn⟩ : ∃ n, qs.length = n := ⟨_, rfl⟩
  have Hn : Hid (qs.length = n) := hnn
  clear h hz
  by_cases hl : left - (n : Int) < 0
  · have HE : Hid (szQ qs left = -1) := by show _ = _; unfold szQ; rw [hnn, if_pos hl]
    rw [hnn] at hn ⊢
    clear hnn
    go_enter Try.func4, Try.ntmps4
    go_wp2
    go_ret
    exact ⟨ret_zz HE.out.symm, Below.refl _ _⟩
  · have HE : Hid (szQ qs left = szQR (qs.drop 0) (left - (n : Int))) := by show _ = _; unfold szQ; rw [hnn, if_neg hl, List.drop_zero]
    have HF : Hid (∀ l, szQR (qs.drop n) l = l) := by intro l; rw [← hnn, List.drop_length]; rfl
    rw [hnn] at hn ⊢
    have hl2 : (n : Int) ≤ left := by omega
    clear hnn hl
    go_enter Try.func4, Try.ntmps4
    go_wp2
    go_loopw [1, 5] (fun x i wr => ∃ (j : Nat) (l : Int), j ≤ n ∧ 0 ≤ l ∧ l ≤ left ∧ i = .int .i64 j ∧ x = .int .i64 l ∧ Hid (szQ qs left = szQR (qs.drop j) l) ∧ Below w.heap.size w wr) (fun _ i _ => n - (intOf i).toNat)
    case atStart => exact ⟨0, left - (n : Int), by omega, by omega, by omega, rfl, rfl, HE, Below.refl _ _⟩
    case round =>
      obtain ⟨j, l, hj, hl0, hl1, rfl, rfl, HJ, hb⟩ := hrel
      by_cases hlt : j < n
      · have hj2 : j < qs.length := by have := Hn.out; omega
        obtain ⟨g, off, rfl, -, hc⟩ := (rdQ_later HA.out hb) j hj2
        have hzl := HZ.out qs[j] (List.getElem_mem hj2)
        have HD2 : Hid (_ = _) := HD.out l j hj2
        generalize qs[j] = o at *
        have HSZ : Hid (∀ X, _) := fun X => szOp_calls X o l hzl hl0 (by omega)
        obtain ⟨c0, c1, c2, c3, c4⟩ := hc
        unfold opV at HSZ
        obtain ⟨ok, oa, ob, oc, ofl⟩ := o
        simp only at *
        generalize txt ofl = ot at *
        by_cases hneg : l - (ofl.length : Int) < 0
        · have HR : Hid (szQ qs left = -1) := by show _ = _; rw [HJ.out, HD2.out, if_pos hneg]
          rw [if_pos hneg] at HSZ
          clear hneg
          go_wp2_with fail
          refine (HSZ.out _).mono ?_
          rintro e w1 ⟨rfl, b1⟩
          have B1 := hb.trans (b1.mono hb.size)
          go_wp2
          go_ret
          exact ⟨ret_zz HR.out.symm, B1⟩
        · have HR : Hid (szQ qs left = szQR (qs.drop (j + 1)) (l - (ofl.length : Int))) := by show _ = _; rw [HJ.out, HD2.out, if_neg hneg]
          rw [if_neg hneg] at HSZ
          have hneg2 : 0 ≤ l - (ofl.length : Int) := by omega
          have hneg3 : l - (ofl.length : Int) ≤ left := by omega
          clear hneg
          generalize l - (ofl.length : Int) = l2 at *
          go_wp2_with fail
          refine (HSZ.out _).mono ?_
          rintro e w1 ⟨rfl, b1⟩
          have B1 := hb.trans (b1.mono hb.size)
          go_wp2
          go_roundw
          case rel => exact ⟨j + 1, l2, by omega, hneg2, hneg3, by go_num, rfl, HR, B1⟩
          case measure => simp [intOf]; omega
      · obtain rfl : j = n := by omega
        have HR : Hid (szQ qs left = l) := by show _ = _; rw [HJ.out, HF.out]
        go_wp2
        go_ret
        exact ⟨ret_zz HR.out.symm, hb⟩

theorem infoQ : (Try.prog.info? 31).map (fun i => (i.zero, i.size, i.bytes)) = some (some (.agg #[.int .i64 0, .int .i64 0, .int .i64 0, .int .i64 0, .string (txt [])]), 5, 48) := by kernel_rfl
theorem make_ops (n : Nat) (hn : n ≤ 1677721) (u : World) : ∃ u', (Instr.makeSlice 25 (.int .i64 (n : Int)) (.int .i64 (n : Int))).run Try.prog u = .ok (.slice (some ⟨u.heap.size, 0, none⟩) n n) u' ∧
    (∀ k, k < n * 5 → (∃ x, u'.cell? ⟨u.heap.size, k, none⟩ = some x) ∧ u'.frozen? ⟨u.heap.size, k, none⟩ = false) ∧ Below u.heap.size u u' ∧ u.heap.size < u'.heap.size := by
  obtain ⟨i0, hi, hz0, hz1, hz2⟩ := info_parts infoQ
  obtain ⟨u', h1, h2, h3⟩ := run_make_full (P := Try.prog) u u.heap.size 25 31 i0 _ 5 Try.underlying25 hi hz0 hz1 .i64 .i64 n (by rw [hz2]; omega) (by unfold maxLen; omega) (Nat.le_refl _)
  refine ⟨u', h1, ?_, (Below.refl _ _).grown h3 (Nat.le_refl _) (fun r hr => by cases hr), ?_⟩
  · intro k hk
    refine ⟨?_, World.ownsRow.frozenAt h2 k⟩
    rw [World.ownsRow.cellAt h2 k hk]
    have hl : k < (madeCells (Value.agg #[.int .i64 0, .int .i64 0, .int .i64 0, .int .i64 0, .string (txt [])]).cells (n * 5)).toList.length := by
      rw [Array.length_toList, size_madeCells]; exact hk
    exact ⟨_, List.getElem?_eq_getElem hl⟩
  · exact (World.ownsRow.lt h2 u.heap.size rfl).2

def setOp (w : World) (g p : Nat) (d : OpD) : World := ((((w.setCell ⟨g, p, none⟩ (.int .i64 d.kind)).setCell ⟨g, p + 1, none⟩ (.int .i64 d.a)).setCell ⟨g, p + 2, none⟩ (.int .i64 d.b)).setCell ⟨g, p + 3, none⟩ (.int .i64 d.c)).setCell ⟨g, p + 4, none⟩ (.string (txt d.site))
theorem setOp_other (w : World) (g p q : Nat) (d : OpD) (h : q < p ∨ p + 5 ≤ q) : (setOp w g p d).cell? ⟨g, q, none⟩ = w.cell? ⟨g, q, none⟩ := by
  unfold setOp
  rw [cell_far _ _ _ _ _ (by omega), cell_far _ _ _ _ _ (by omega), cell_far _ _ _ _ _ (by omega), cell_far _ _ _ _ _ (by omega), cell_far _ _ _ _ _ (by omega)]
theorem setOp_frozen (w : World) (g p : Nat) (d : OpD) (a : Addr) : (setOp w g p d).frozen? a = w.frozen? a := by
  unfold setOp
  rw [World.frozen?_setCell, World.frozen?_setCell, World.frozen?_setCell, World.frozen?_setCell, World.frozen?_setCell]
theorem setOp_size (w : World) (g p : Nat) (d : OpD) : (setOp w g p d).heap.size = w.heap.size := by unfold setOp; simp [World.setCell]
theorem setOp_below {B : Nat} {a w : World} (g p : Nat) (d : OpD) (h : Below B a w) (hg : B ≤ g) : Below B a (setOp w g p d) := by
  unfold setOp
  exact ((((h.setCell (p := ⟨g, p, none⟩) hg _).setCell (p := ⟨g, p + 1, none⟩) hg _).setCell (p := ⟨g, p + 2, none⟩) hg _).setCell (p := ⟨g, p + 3, none⟩) hg _).setCell (p := ⟨g, p + 4, none⟩) hg _
theorem some_setOp (w : World) (g p : Nat) (d : OpD) (a : Addr) (h : ∃ x, w.cell? a = some x) : ∃ x, (setOp w g p d).cell? a = some x := by
  unfold setOp
  exact some_set _ _ _ _ (some_set _ _ _ _ (some_set _ _ _ _ (some_set _ _ _ _ (some_set _ _ _ _ h))))
theorem setOp_at (w : World) (g p : Nat) (d : OpD) (h : ∀ k, k < 5 → ∃ u, w.cell? ⟨g, p + k, none⟩ = some u) : OpLie (setOp w g p d) g p d := by
  have same : ∀ (X : World) (q : Nat) (u : Value), (∃ v, X.cell? ⟨g, q, none⟩ = some v) → (X.setCell ⟨g, q, none⟩ u).cell? ⟨g, q, none⟩ = some u := fun X q u hX => by
    obtain ⟨v, hX⟩ := hX
    exact World.cell?_setCell_same X _ u hX
  have h0 := h 0 (by omega)
  have h1 := h 1 (by omega)
  have h2 := h 2 (by omega)
  have h3 := h 3 (by omega)
  have h4 := h 4 (by omega)
  rw [Nat.add_zero] at h0
  unfold setOp
  constructor
  · rw [cell_far _ _ _ _ _ (by omega), cell_far _ _ _ _ _ (by omega), cell_far _ _ _ _ _ (by omega), cell_far _ _ _ _ _ (by omega)]
    exact same _ _ _ h0
  · rw [cell_far _ _ _ _ _ (by omega), cell_far _ _ _ _ _ (by omega), cell_far _ _ _ _ _ (by omega)]
    exact same _ _ _ (some_set _ _ _ _ h1)
  · rw [cell_far _ _ _ _ _ (by omega), cell_far _ _ _ _ _ (by omega)]
    exact same _ _ _ (some_set _ _ _ _ (some_set _ _ _ _ h2))
  · rw [cell_far _ _ _ _ _ (by omega)]
    exact same _ _ _ (some_set _ _ _ _ (some_set _ _ _ _ (some_set _ _ _ _ h3)))
  · exact same _ _ _ (some_set _ _ _ _ (some_set _ _ _ _ (some_set _ _ _ _ (some_set _ _ _ _ h4))))

/-- The first j operations of a row lie in block g. -/
def LaidQ (w : World) (g : Nat) (qs : List OpD) (j : Nat) : Prop := ∀ i (h : i < qs.length), i < j → OpLie w g (i * 5) qs[i] ∧ ∀ k, k < 5 → w.frozen? ⟨g, i * 5 + k, none⟩ = false
theorem laidQ_rd {w : World} {g : Nat} {qs : List OpD} (h : LaidQ w g qs qs.length) (hg : g < w.heap.size) : RdQ w (some ⟨g, 0, none⟩) qs :=
  fun j hj => ⟨g, 0, rfl, hg, by rw [Nat.zero_add]; exact (h j hj hj).1⟩
theorem laidQ_later {w w' : World} {g j : Nat} {qs : List OpD} (h : LaidQ w g qs j) (hb : Below w.heap.size w w') (hg : g < w.heap.size) : LaidQ w' g qs j :=
  fun i hi hij => ⟨(h i hi hij).1.keep (fun k => hb.cell (p := ⟨g, k, none⟩) hg), fun k hk => (hb.frozen (p := ⟨g, i * 5 + k, none⟩) hg).trans ((h i hi hij).2 k hk)⟩
theorem laidQ_set {w : World} {g j : Nat} {qs : List OpD} (h : LaidQ w g qs j) (hj : j < qs.length) (hc : ∀ k, k < 5 → ∃ u, w.cell? ⟨g, j * 5 + k, none⟩ = some u) (hf : ∀ k, k < 5 → w.frozen? ⟨g, j * 5 + k, none⟩ = false) : LaidQ (setOp w g (j * 5) qs[j]) g qs (j + 1) := by
  intro i hi hij
  by_cases he : i = j
  · subst he
    exact ⟨setOp_at w g (i * 5) qs[i] hc, fun k hk => (setOp_frozen _ _ _ _ _).trans (hf k hk)⟩
  · have h1 := (h i hi (by omega)).1
    exact ⟨⟨by rw [setOp_other _ _ _ _ _ (by omega)]; exact h1.c0, by rw [setOp_other _ _ _ _ _ (by omega)]; exact h1.c1, by rw [setOp_other _ _ _ _ _ (by omega)]; exact h1.c2, by rw [setOp_other _ _ _ _ _ (by omega)]; exact h1.c3, by rw [setOp_other _ _ _ _ _ (by omega)]; exact h1.c4⟩, fun k hk => (setOp_frozen _ _ _ _ _).trans ((h i hi (by omega)).2 k hk)⟩

theorem toOpS_calls (w : World) (a : Option Addr) (cap : Nat) (qs : List OpD) (h : RdQ w a qs) (hn : qs.length ≤ 1677721) :
    Calls Try.prog 6 #[.slice a qs.length cap] w fun e w' => e = .returned (.slice (some ⟨w.heap.size, 0, none⟩) qs.length qs.length) ∧ LaidQ w' w.heap.size qs qs.length ∧ w.heap.size < w'.heap.size ∧ Below w.heap.size w w' := by
  have HA : Hid (RdQ w a qs) := h
  obtain ⟨u, hmk, hc0, B0, hlt0⟩ := make_ops qs.length hn w
  have HC0 : Hid (∀ k, k < qs.length * 5 → (∃ x, u.cell? ⟨w.heap.size, k, none⟩ = some x) ∧ u.frozen? ⟨w.heap.size, k, none⟩ = false) := hc0
  obtain ⟨n, hnn⟩ : ∃ n, qs.length = n := ⟨_, rfl⟩
  have Hn : Hid (qs.length = n) := hnn
  rw [hnn] at hn hmk HC0 ⊢
  clear h hc0 hnn
  go_enter Try.func6, Try.ntmps6
  go_wp2
  go_loopw [4] (fun i wr => ∃ j : Nat, j ≤ n ∧ i = .int .i64 j ∧ Hid (LaidQ wr w.heap.size qs j) ∧ Hid (∀ k, k < n * 5 → (∃ x, wr.cell? ⟨w.heap.size, k, none⟩ = some x) ∧ wr.frozen? ⟨w.heap.size, k, none⟩ = false) ∧ w.heap.size < wr.heap.size ∧ Below w.heap.size w wr) (fun i _ => n - (intOf i).toNat)
  case atStart => exact ⟨0, by omega, rfl, (fun i hi hij => by omega), HC0, hlt0, B0⟩
  case round =>
    obtain ⟨j, hj, rfl, HL, HC, hgl, hb⟩ := hrel
    by_cases hlt : j < n
    · have hj2 : j < qs.length := by have := Hn.out; omega
      obtain ⟨g, off, rfl, hg, hc⟩ := (rdQ_later HA.out hb) j hj2
      obtain ⟨d, hd⟩ : ∃ d, qs[j] = d := ⟨_, rfl⟩
      have Hd : Hid (qs[j] = d) := hd
      rw [hd] at hc
      clear hd
      obtain ⟨c0, c1, c2, c3, c4⟩ := hc
      obtain ⟨dk, da, db, dc, ds⟩ := d
      simp only at c0 c1 c2 c3 c4
      go_wp2_with fail
      refine (toOp_calls wr ⟨dk, da, db, dc, ds⟩).mono ?_
      rintro e w1 ⟨rfl, b1⟩
      have B1 := hb.trans (b1.mono hb.size)
      have HX : Hid (∀ k, k < n * 5 → (∃ x, w1.cell? ⟨w.heap.size, k, none⟩ = some x) ∧ w1.frozen? ⟨w.heap.size, k, none⟩ = false) := by
        intro k hk
        obtain ⟨⟨x, hx⟩, hfz⟩ := HC.out k hk
        exact ⟨⟨x, (b1.cell (p := ⟨w.heap.size, k, none⟩) hgl).trans hx⟩, (b1.frozen (p := ⟨w.heap.size, k, none⟩) hgl).trans hfz⟩
      have HL1 : Hid (LaidQ w1 w.heap.size qs j) := laidQ_later HL.out b1 hgl
      obtain ⟨⟨x0, e0⟩, f0⟩ := HX.out (j * 5) (by omega)
      obtain ⟨⟨x1, e1⟩, f1⟩ := HX.out (j * 5 + 1) (by omega)
      obtain ⟨⟨x2, e2⟩, f2⟩ := HX.out (j * 5 + 2) (by omega)
      obtain ⟨⟨x3, e3⟩, f3⟩ := HX.out (j * 5 + 3) (by omega)
      obtain ⟨⟨x4, e4⟩, f4⟩ := HX.out (j * 5 + 4) (by omega)
      have hgl1 : w.heap.size < w1.heap.size := Nat.lt_of_lt_of_le hgl b1.size
      have HS1 : Hid (LaidQ (setOp w1 w.heap.size (j * 5) ⟨dk, da, db, dc, ds⟩) w.heap.size qs (j + 1)) := by
        have h := laidQ_set HL1.out hj2 (fun k hk => (HX.out (j * 5 + k) (by omega)).1) (fun k hk => (HX.out (j * 5 + k) (by omega)).2)
        rw [Hd.out] at h
        exact h
      have HS2 : Hid (∀ k, k < n * 5 → (∃ x, (setOp w1 w.heap.size (j * 5) ⟨dk, da, db, dc, ds⟩).cell? ⟨w.heap.size, k, none⟩ = some x) ∧ (setOp w1 w.heap.size (j * 5) ⟨dk, da, db, dc, ds⟩).frozen? ⟨w.heap.size, k, none⟩ = false) :=
        fun k hk => ⟨some_setOp _ _ _ _ _ (HX.out k hk).1, (setOp_frozen _ _ _ _ _).trans (HX.out k hk).2⟩
      have HS3 : Hid (w.heap.size < (setOp w1 w.heap.size (j * 5) ⟨dk, da, db, dc, ds⟩).heap.size) := by show _ < _; rw [setOp_size]; exact hgl1
      have HS4 : Hid (Below w.heap.size w (setOp w1 w.heap.size (j * 5) ⟨dk, da, db, dc, ds⟩)) := setOp_below _ _ _ B1 (Nat.le_refl _)
      clear c0 c1 c2 c3 c4
      unfold opV
      go_wp2
      go_roundw
      case rel => exact ⟨j + 1, by omega, by go_num, HS1, HS2, HS3.out, HS4.out⟩
      case measure => simp [intOf]; omega
    · obtain rfl : j = n := by omega
      go_wp2
      go_ret
      exact ⟨rfl, HL.out, hgl, hb⟩

theorem eqOp_same (w : World) (o : OpD) :
    Calls Try.prog 12 #[opV o, opV o] w fun e w' => e = .returned (.bool true) ∧ Below w.heap.size w w' := by
  obtain ⟨k, a, b, c, s⟩ := o
  unfold opV
  simp only
  generalize txt s = t
  go_enter Try.func12, Try.ntmps12
  go_wp2
  go_ret
  exact ⟨rfl, ((Below.refl _ _).alloc (Nat.le_refl _) _).alloc (by simp) _⟩

theorem eqOpS_calls (w : World) (a b : Option Addr) (cap cap2 : Nat) (qs : List OpD) (h1 : RdQ w a qs) (h2 : RdQ w b qs) (hn : qs.length ≤ 16777216) :
    Calls Try.prog 8 #[.slice a qs.length cap, .slice b qs.length cap2] w fun e w' => e = .returned (.bool true) ∧ Below w.heap.size w w' := by
  have HA : Hid (RdQ w a qs) := h1
  have HB : Hid (RdQ w b qs) := h2
  obtain ⟨n, hnn⟩ : ∃ n, qs.length = n := ⟨_, rfl⟩
  have Hn : Hid (qs.length = n) := hnn
  rw [hnn] at hn ⊢
  clear h1 h2 hnn
  go_enter Try.func8, Try.ntmps8
  go_wp2
  go_loopw [5] (fun i wr => ∃ j : Nat, j ≤ n ∧ i = .int .i64 j ∧ Below w.heap.size w wr) (fun i _ => n - (intOf i).toNat)
  case atStart => exact ⟨0, by omega, rfl, Below.refl _ _⟩
  case round =>
    obtain ⟨j, hj, rfl, hb⟩ := hrel
    by_cases hlt : j < n
    · have hj2 : j < qs.length := by have := Hn.out; omega
      obtain ⟨g, off, rfl, -, hc⟩ := (rdQ_later HA.out hb) j hj2
      obtain ⟨g2, off2, rfl, -, hc2⟩ := (rdQ_later HB.out hb) j hj2
      generalize qs[j] = d at *
      have HE : Hid (∀ X, _) := fun X => eqOp_same X d
      unfold opV at HE
      obtain ⟨c0, c1, c2, c3, c4⟩ := hc
      obtain ⟨d0, d1, d2, d3, d4⟩ := hc2
      obtain ⟨dk, da, db, dc, ds⟩ := d
      simp only at *
      generalize txt ds = dt at *
      go_wp2_with fail
      go_region_with (go_at_call 12; refine (HE.out _).mono ?_; rintro e w1 ⟨rfl, b1⟩)
      all_goals
        have B1 : Below w.heap.size w w1 := hb.drew.trans (b1.mono hb.size)
        go_wp2
        go_roundw
        case rel => exact ⟨j + 1, by omega, by go_num, B1⟩
        case measure => simp [intOf]; omega
    · go_wp2
      go_ret
      exact ⟨rfl, hb⟩

section
variable {T : Type} {enc : TypeId × Value → T} {w : World} {held : Bool}

theorem opened_opc {fuel : Nat} {cs : List Value} {x : DataW T × List MemPlace} (h : DataW.trod enc Try.prog w 0 (fun _ => true) held fuel 30 cs = some x) : ∃ d : OpD, cs = [.int .i64 d.kind, .int .i64 d.a, .int .i64 d.b, .int .i64 d.c, .string (txt d.site)] ∧ SaneOp d := by
  obtain ⟨xs, n, _, _, hl, hlen, hf⟩ := DataW.trod_struct Try.underlying30 h
  have hl2 : cs.length = 5 := hl.trans (by kernel_rfl)
  match cs, hl2, xs, hlen with
  | [c0, c1, c2, c3, c4], _, [y0, y1, y2, y3, y4], _ =>
    have e3 : Try.prog.cellsOf 3 = 1 := by kernel_rfl
    have e2 : Try.prog.cellsOf 9 = 1 := by kernel_rfl
    have h0 := hf 0 { name := "Kind", type := 3, offset := 0, embedded := false, tag := "", pkgPath := "", byteOffset := 0 } rfl
    have h1 := hf 1 { name := "A", type := 3, offset := 1, embedded := false, tag := "", pkgPath := "", byteOffset := 8 } rfl
    have h2 := hf 2 { name := "B", type := 3, offset := 2, embedded := false, tag := "", pkgPath := "", byteOffset := 16 } rfl
    have h3 := hf 3 { name := "C", type := 3, offset := 3, embedded := false, tag := "", pkgPath := "", byteOffset := 24 } rfl
    have h4 := hf 4 { name := "Site", type := 9, offset := 4, embedded := false, tag := "", pkgPath := "", byteOffset := 32 } rfl
    simp only [e2, e3] at h0 h1 h2 h3 h4
    obtain ⟨m0, g0, _, v0⟩ := DataW.trod_int Try.underlying3 (x := y0) (by simpa using h0)
    obtain ⟨m1, g1, _, v1⟩ := DataW.trod_int Try.underlying3 (x := y1) (by simpa using h1)
    obtain ⟨m2, g2, _, v2⟩ := DataW.trod_int Try.underlying3 (x := y2) (by simpa using h2)
    obtain ⟨m3, g3, _, v3⟩ := DataW.trod_int Try.underlying3 (x := y3) (by simpa using h3)
    obtain ⟨m4, g4, _, v4⟩ := DataW.trod_string Try.underlying9 (x := y4) (by simpa using h4)
    exact ⟨⟨m0, m1, m2, m3, m4.data.toList⟩, by simp_all [txt], ⟨in64_wf v0, in64_wf v1, in64_wf v2, in64_wf v3, by unfold maxLen at v4; exact v4⟩⟩

theorem opened_ops {fuel : Nat} {cs : List Value} {x : DataW T × List MemPlace} (h : DataW.trod enc Try.prog w 0 (fun _ => true) held fuel 22 cs = some x) :
    ∃ a qs cap, cs = [.slice a qs.length cap] ∧ RdQ w a qs ∧ qs.length ≤ 9223372036854775807 ∧ ∀ d ∈ qs, SaneOp d := by
  rcases open_slice Try.underlying22 h with ⟨rfl, _⟩ | ⟨a, len, cap, m, n, D, Pl, rfl, _, hl, hm, hmm, _, hx⟩
  · exact ⟨none, [], 0, rfl, fun j hj => by simp at hj, by simp, by simp⟩
  · have hm2 : m = cap := by simpa using hmm
    have e2 : Try.prog.cellsOf 30 = 5 := by kernel_rfl
    rw [e2] at hx
    have hin : Inhabited OpD := ⟨⟨0, 0, 0, 0, []⟩⟩
    obtain ⟨f, hf⟩ := choose_lt (α := OpD) (n := len) (p := fun i d => SaneOp d ∧ ∀ k, k < 5 → w.cell? (Addr.add (a.add (i * 5)) k) = ([Value.int .i64 d.kind, .int .i64 d.a, .int .i64 d.b, .int .i64 d.c, .string (txt d.site)] : List Value)[k]?) (fun i hi => by
      obtain ⟨cs', h1, h2⟩ := hx i (by omega)
      obtain ⟨d, rfl, hd⟩ := opened_opc h2
      exact ⟨d, hd, (World.cells?_some h1).2.2⟩)
    unfold maxLen at hm
    have ht : ((List.range len).map f).length = len := by simp
    refine ⟨some a, (List.range len).map f, cap, by rw [ht], ?_, by omega, fun z hz => by
      obtain ⟨i, hi, rfl⟩ := List.mem_map.1 hz
      exact (hf i (List.mem_range.1 hi)).1⟩
    intro j hj
    rw [ht] at hj
    have hc0 := (hf 0 (by omega)).2 0 (by omega)
    obtain ⟨b, off, rfl⟩ : ∃ b off, a = ⟨b, off, none⟩ := by
      rw [Nat.zero_mul, show Addr.add (Addr.add a 0) 0 = a.add 0 from by rw [add_add]] at hc0
      exact plain_addr (v := .int .i64 (f 0).kind) hc0
    have q0 := (hf j hj).2 0 (by omega)
    have q1 := (hf j hj).2 1 (by omega)
    have q2 := (hf j hj).2 2 (by omega)
    have q3 := (hf j hj).2 3 (by omega)
    have q4 := (hf j hj).2 4 (by omega)
    rw [add_plain, add_plain] at q0 q1 q2 q3 q4
    simp at q0 q1 q2 q3 q4
    refine ⟨b, off, rfl, World.block_lt_of_cell? w _ q0, ?_⟩
    rw [List.getElem_map, List.getElem_range]
    exact ⟨q0, q1, q2, q3, q4⟩

end

end Go.Proofs.Ytcjpepdagnifiab
