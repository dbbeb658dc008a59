/- Rows of operations as the laws have them: what szOpS, toOpS and eqOpS do; an argument that is such a row, opened. -/
import Derived.Test.YtjhdnachbahbmaaOpBase
namespace Go.Proofs.Ytjhdnachbahbmaa
open Go.ChangeShapes Go.WideShapes Go.ChangeAt Go.RowKit Go.Deep
set_option linter.unusedVariables false
set_option maxRecDepth 100000

/-- An operation lies at place p of block g. -/
structure OpLie (w : World) (g p : Nat) (o : OpD) : Prop where
  c0 : w.cell? ⟨g, p, none⟩ = some (.int .i64 o.kind)
  c1 : w.cell? ⟨g, p + 1, none⟩ = some (.int .i64 o.a)
  c2 : w.cell? ⟨g, p + 2, none⟩ = some (.int .i64 o.b)
  c3 : w.cell? ⟨g, p + 3, none⟩ = some (.int .i64 o.c)
  c4 : w.cell? ⟨g, p + 4, none⟩ = some (.string (txt o.site))
theorem OpLie.keep {w w' : World} {g p : Nat} {o : OpD} (h : OpLie w g p o) (hk : ∀ k, w'.cell? ⟨g, k, none⟩ = w.cell? ⟨g, k, none⟩) : OpLie w' g p o :=
  ⟨(hk _).trans h.c0, (hk _).trans h.c1, (hk _).trans h.c2, (hk _).trans h.c3, (hk _).trans h.c4⟩
/-- A row of operations as one who only reads has it. -/
def RdQ (w : World) (a : Option Addr) (qs : List OpD) : Prop := ∀ j (h : j < qs.length), ∃ g off, a = some ⟨g, off, none⟩ ∧ g < w.heap.size ∧ OpLie w g (off + j * 5) qs[j]
theorem rdQ_later {w w' : World} {a : Option Addr} {qs : List OpD} (h : RdQ w a qs) (hb : Below w.heap.size w w') : RdQ w' a qs := by
  intro j hj
  obtain ⟨g, off, ha, hg, hc⟩ := h j hj
  exact ⟨g, off, ha, Nat.lt_of_lt_of_le hg hb.size, hc.keep (fun k => hb.cell (p := ⟨g, k, none⟩) hg)⟩

/-- What is left of a size behind operations. -/
def szQR : List OpD → Int → Int
  | [], left => left
  | o :: r, left => if left - (o.site.length : Int) < 0 then -1 else szQR r (left - (o.site.length : Int))
def szQ (qs : List OpD) (left : Int) : Int := if left - (qs.length : Int) < 0 then -1 else szQR qs (left - (qs.length : Int))
theorem szQR_le (qs : List OpD) : ∀ left : Int, -1 ≤ left → szQR qs left ≤ left ∧ -1 ≤ szQR qs left := by
  induction qs with
  | nil => intro left h; exact ⟨Int.le_refl _, h⟩
  | cons z r ih =>
    intro left h
    simp only [szQR]
    split
    · omega
    · have := ih (left - (z.site.length : Int)) (by omega); omega
theorem szQ_le (qs : List OpD) (left : Int) (h : -1 ≤ left) : szQ qs left ≤ left ∧ -1 ≤ szQ qs left := by
  unfold szQ; split
  · omega
  · have := szQR_le qs (left - (qs.length : Int)) (by omega); omega
theorem szQR_each (qs : List OpD) : ∀ left : Int, 0 ≤ szQR qs left → ∀ z ∈ qs, (z.site.length : Int) ≤ left := by
  induction qs with
  | nil => intro left _ z hz; simp at hz
  | cons y r ih =>
    intro left h z hz
    simp only [szQR] at h
    split at h
    · omega
    · rcases List.mem_cons.1 hz with rfl | hz
      · omega
      · have := ih _ h z hz; omega
theorem szQ_facts (qs : List OpD) (left : Int) (h : 0 ≤ szQ qs left) : (qs.length : Int) ≤ left ∧ ∀ z ∈ qs, (z.site.length : Int) ≤ left := by
  unfold szQ at h
  split at h
  · omega
  · refine ⟨by omega, fun z hz => ?_⟩
    have := szQR_each qs _ h z hz
    omega
theorem szQR_drop (qs : List OpD) (left : Int) (j : Nat) (h : j < qs.length) : szQR (qs.drop j) left = if left - (qs[j].site.length : Int) < 0 then -1 else szQR (qs.drop (j + 1)) (left - (qs[j].site.length : Int)) := by
  rw [List.drop_eq_getElem_cons h]; rfl

theorem infoQ : (Try.prog.info? 25).map (fun i => (i.zero, i.size, i.bytes)) = some (some (.agg #[.int .i64 0, .int .i64 0, .int .i64 0, .int .i64 0, .string (txt [])]), 5, 48) := by kernel_rfl
theorem make_ops (n : Nat) (hn : n ≤ 1677721) (u : World) : ∃ u', (Instr.makeSlice 26 (.int .i64 (n : Int)) (.int .i64 (n : Int))).run Try.prog u = .ok (.slice (some ⟨u.heap.size, 0, none⟩) n n) u' ∧
    (∀ k, k < n * 5 → (∃ x, u'.cell? ⟨u.heap.size, k, none⟩ = some x) ∧ u'.frozen? ⟨u.heap.size, k, none⟩ = false) ∧ Below u.heap.size u u' ∧ u.heap.size < u'.heap.size := by
  obtain ⟨i0, hi, hz0, hz1, hz2⟩ := info_parts infoQ
  obtain ⟨u', h1, h2, h3⟩ := run_make_full (P := Try.prog) u u.heap.size 26 25 i0 _ 5 Try.underlying26 hi hz0 hz1 .i64 .i64 n (by rw [hz2]; omega) (by unfold maxLen; omega) (Nat.le_refl _)
  refine ⟨u', h1, ?_, (Below.refl _ _).grown h3 (Nat.le_refl _) (fun r hr => by cases hr), ?_⟩
  · intro k hk
    refine ⟨?_, World.ownsRow.frozenAt h2 k⟩
    rw [World.ownsRow.cellAt h2 k hk]
    have hl : k < (madeCells (Value.agg #[.int .i64 0, .int .i64 0, .int .i64 0, .int .i64 0, .string (txt [])]).cells (n * 5)).toList.length := by
      rw [Array.length_toList, size_madeCells]; exact hk
    exact ⟨_, List.getElem?_eq_getElem hl⟩
  · exact (World.ownsRow.lt h2 u.heap.size rfl).2

def setOp (w : World) (g p : Nat) (d : OpD) : World := ((((w.setCell ⟨g, p, none⟩ (.int .i64 d.kind)).setCell ⟨g, p + 1, none⟩ (.int .i64 d.a)).setCell ⟨g, p + 2, none⟩ (.int .i64 d.b)).setCell ⟨g, p + 3, none⟩ (.int .i64 d.c)).setCell ⟨g, p + 4, none⟩ (.string (txt d.site))
theorem setOp_other (w : World) (g p q : Nat) (d : OpD) (h : q < p ∨ p + 5 ≤ q) : (setOp w g p d).cell? ⟨g, q, none⟩ = w.cell? ⟨g, q, none⟩ := by
  unfold setOp
  rw [cell_far _ _ _ _ _ (by omega), cell_far _ _ _ _ _ (by omega), cell_far _ _ _ _ _ (by omega), cell_far _ _ _ _ _ (by omega), cell_far _ _ _ _ _ (by omega)]
theorem setOp_frozen (w : World) (g p : Nat) (d : OpD) (a : Addr) : (setOp w g p d).frozen? a = w.frozen? a := by
  unfold setOp
  rw [World.frozen?_setCell, World.frozen?_setCell, World.frozen?_setCell, World.frozen?_setCell, World.frozen?_setCell]
theorem setOp_size (w : World) (g p : Nat) (d : OpD) : (setOp w g p d).heap.size = w.heap.size := by unfold setOp; simp [World.setCell]
theorem setOp_below {B : Nat} {a w : World} (g p : Nat) (d : OpD) (h : Below B a w) (hg : B ≤ g) : Below B a (setOp w g p d) := by
  unfold setOp
  exact ((((h.setCell (p := ⟨g, p, none⟩) hg _).setCell (p := ⟨g, p + 1, none⟩) hg _).setCell (p := ⟨g, p + 2, none⟩) hg _).setCell (p := ⟨g, p + 3, none⟩) hg _).setCell (p := ⟨g, p + 4, none⟩) hg _
theorem some_setOp (w : World) (g p : Nat) (d : OpD) (a : Addr) (h : ∃ x, w.cell? a = some x) : ∃ x, (setOp w g p d).cell? a = some x := by
  unfold setOp
  exact some_set _ _ _ _ (some_set _ _ _ _ (some_set _ _ _ _ (some_set _ _ _ _ (some_set _ _ _ _ h))))
theorem setOp_at (w : World) (g p : Nat) (d : OpD) (h : ∀ k, k < 5 → ∃ u, w.cell? ⟨g, p + k, none⟩ = some u) : OpLie (setOp w g p d) g p d := by
  have same : ∀ (X : World) (q : Nat) (u : Value), (∃ v, X.cell? ⟨g, q, none⟩ = some v) → (X.setCell ⟨g, q, none⟩ u).cell? ⟨g, q, none⟩ = some u := fun X q u hX => by
    obtain ⟨v, hX⟩ := hX
    exact World.cell?_setCell_same X _ u hX
  have h0 := h 0 (by omega)
  have h1 := h 1 (by omega)
  have h2 := h 2 (by omega)
  have h3 := h 3 (by omega)
  have h4 := h 4 (by omega)
  rw [Nat.add_zero] at h0
  unfold setOp
  constructor
  · rw [cell_far _ _ _ _ _ (by omega), cell_far _ _ _ _ _ (by omega), cell_far _ _ _ _ _ (by omega), cell_far _ _ _ _ _ (by omega)]
    exact same _ _ _ h0
  · rw [cell_far _ _ _ _ _ (by omega), cell_far _ _ _ _ _ (by omega), cell_far _ _ _ _ _ (by omega)]
    exact same _ _ _ (some_set _ _ _ _ h1)
  · rw [cell_far _ _ _ _ _ (by omega), cell_far _ _ _ _ _ (by omega)]
    exact same _ _ _ (some_set _ _ _ _ (some_set _ _ _ _ h2))
  · rw [cell_far _ _ _ _ _ (by omega)]
    exact same _ _ _ (some_set _ _ _ _ (some_set _ _ _ _ (some_set _ _ _ _ h3)))
  · exact same _ _ _ (some_set _ _ _ _ (some_set _ _ _ _ (some_set _ _ _ _ (some_set _ _ _ _ h4))))

/-- The first j operations of a row lie in block g. -/
def LaidQ (w : World) (g : Nat) (qs : List OpD) (j : Nat) : Prop := ∀ i (h : i < qs.length), i < j → OpLie w g (i * 5) qs[i] ∧ ∀ k, k < 5 → w.frozen? ⟨g, i * 5 + k, none⟩ = false
theorem laidQ_rd {w : World} {g : Nat} {qs : List OpD} (h : LaidQ w g qs qs.length) (hg : g < w.heap.size) : RdQ w (some ⟨g, 0, none⟩) qs :=
  fun j hj => ⟨g, 0, rfl, hg, by rw [Nat.zero_add]; exact (h j hj hj).1⟩
theorem laidQ_later {w w' : World} {g j : Nat} {qs : List OpD} (h : LaidQ w g qs j) (hb : Below w.heap.size w w') (hg : g < w.heap.size) : LaidQ w' g qs j :=
  fun i hi hij => ⟨(h i hi hij).1.keep (fun k => hb.cell (p := ⟨g, k, none⟩) hg), fun k hk => (hb.frozen (p := ⟨g, i * 5 + k, none⟩) hg).trans ((h i hi hij).2 k hk)⟩
theorem laidQ_set {w : World} {g j : Nat} {qs : List OpD} (h : LaidQ w g qs j) (hj : j < qs.length) (hc : ∀ k, k < 5 → ∃ u, w.cell? ⟨g, j * 5 + k, none⟩ = some u) (hf : ∀ k, k < 5 → w.frozen? ⟨g, j * 5 + k, none⟩ = false) : LaidQ (setOp w g (j * 5) qs[j]) g qs (j + 1) := by
  intro i hi hij
  by_cases he : i = j
  · subst he
    exact ⟨setOp_at w g (i * 5) qs[i] hc, fun k hk => (setOp_frozen _ _ _ _ _).trans (hf k hk)⟩
  · have h1 := (h i hi (by omega)).1
    exact ⟨⟨by rw [setOp_other _ _ _ _ _ (by omega)]; exact h1.c0, by rw [setOp_other _ _ _ _ _ (by omega)]; exact h1.c1, by rw [setOp_other _ _ _ _ _ (by omega)]; exact h1.c2, by rw [setOp_other _ _ _ _ _ (by omega)]; exact h1.c3, by rw [setOp_other _ _ _ _ _ (by omega)]; exact h1.c4⟩, fun k hk => (setOp_frozen _ _ _ _ _).trans ((h i hi (by omega)).2 k hk)⟩

section
variable {T : Type} {enc : TypeId × Value → T} {w : World} {held : Bool}

end

end Go.Proofs.Ytjhdnachbahbmaa
