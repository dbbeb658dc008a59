/- Rows of answers as the laws have them: what szAnswerS, toAnswerS and eqAnswerS do; an argument that is such a row, opened. -/
import Derived.Test.YtjhdnachbahbmaaOpsWalks
namespace Go.Proofs.Ytjhdnachbahbmaa
open Go.ChangeShapes Go.WideShapes Go.ChangeAt Go.RowKit Go.Deep
set_option linter.unusedVariables false
set_option maxRecDepth 100000

/-- An answer lies at place p of block g, f the slice of what was freed. -/
structure AnLie (w : World) (g p : Nat) (o : AnsD) (f : Value) : Prop where
  c0 : w.cell? ⟨g, p, none⟩ = some (.int .i64 o.code)
  c1 : w.cell? ⟨g, p + 1, none⟩ = some (.int .i64 o.val)
  c2 : w.cell? ⟨g, p + 2, none⟩ = some f
theorem AnLie.keep {w w' : World} {g p : Nat} {o : AnsD} {f : Value} (h : AnLie w g p o f) (hk : ∀ k, w'.cell? ⟨g, k, none⟩ = w.cell? ⟨g, k, none⟩) : AnLie w' g p o f :=
  ⟨(hk _).trans h.c0, (hk _).trans h.c1, (hk _).trans h.c2⟩

/-- A row of answers as one who only reads has it. -/
def RdY (w : World) (a : Option Addr) (qs : List AnsD) : Prop := ∀ j (h : j < qs.length), ∃ g off f cap, a = some ⟨g, off, none⟩ ∧ g < w.heap.size ∧ AnLie w g (off + j * 3) qs[j] (.slice f qs[j].freed.length cap) ∧ RdI w f qs[j].freed
theorem rdY_later {w w' : World} {a : Option Addr} {qs : List AnsD} (h : RdY w a qs) (hb : Below w.heap.size w w') : RdY w' a qs := by
  intro j hj
  obtain ⟨g, off, f, cap, ha, hg, hc, hr⟩ := h j hj
  exact ⟨g, off, f, cap, ha, Nat.lt_of_lt_of_le hg hb.size, hc.keep (fun k => hb.cell (p := ⟨g, k, none⟩) hg), rdI_later hr hb⟩

/-- An answer written at place p of block g. -/
def setAn (w : World) (g p : Nat) (o : AnsD) (f : Value) : World := ((w.setCell ⟨g, p, none⟩ (.int .i64 o.code)).setCell ⟨g, p + 1, none⟩ (.int .i64 o.val)).setCell ⟨g, p + 2, none⟩ f
theorem setAn_other (w : World) (g p q : Nat) (o : AnsD) (f : Value) (h : q < p ∨ p + 3 ≤ q) : (setAn w g p o f).cell? ⟨g, q, none⟩ = w.cell? ⟨g, q, none⟩ := by
  unfold setAn
  rw [cell_far _ _ _ _ _ (by omega), cell_far _ _ _ _ _ (by omega), cell_far _ _ _ _ _ (by omega)]
theorem setAn_frozen (w : World) (g p : Nat) (o : AnsD) (f : Value) (a : Addr) : (setAn w g p o f).frozen? a = w.frozen? a := by
  unfold setAn; simp only [World.frozen?_setCell]
theorem setAn_at (w : World) (g p : Nat) (o : AnsD) (f : Value) (h : ∀ k, k < 3 → ∃ u, w.cell? ⟨g, p + k, none⟩ = some u) : AnLie (setAn w g p o f) g p o f := by
  have same : ∀ (X : World) (q : Nat) (u : Value), (∃ v, X.cell? ⟨g, q, none⟩ = some v) → (X.setCell ⟨g, q, none⟩ u).cell? ⟨g, q, none⟩ = some u := fun X q u hX => by
    obtain ⟨v, hX⟩ := hX
    exact World.cell?_setCell_same X _ u hX
  have h0 := h 0 (by omega)
  have h1 := h 1 (by omega)
  have h2 := h 2 (by omega)
  rw [Nat.add_zero] at h0
  unfold setAn
  constructor
  · rw [cell_far _ _ _ _ _ (by omega), cell_far _ _ _ _ _ (by omega)]
    exact same _ _ _ h0
  · rw [cell_far _ _ _ _ _ (by omega)]
    exact same _ _ _ (some_set _ _ _ _ h1)
  · exact same _ _ _ (some_set _ _ _ _ (some_set _ _ _ _ h2))
theorem setAn_own {w : World} {B : Nat} {v : Value} {zs : List Int} (g p : Nat) (o : AnsD) (f : Value) (h : ownI w B v zs) (hg : g < B) : ownI (setAn w g p o f) B v zs := by
  unfold setAn
  iterate 3 refine ownI_far _ _ ?_ hg
  exact h
theorem setAn_below {B : Nat} {a w : World} (g p : Nat) (o : AnsD) (f : Value) (h : Below B a w) (hg : B ≤ g) : Below B a (setAn w g p o f) := by
  unfold setAn
  iterate 3 refine Below.setCell ?_ hg _
  exact h
theorem setAn_size (w : World) (g p : Nat) (o : AnsD) (f : Value) : (setAn w g p o f).heap.size = w.heap.size := by
  unfold setAn; simp [World.setCell]
theorem infoY : (Try.prog.info? 38).map (fun i => (i.zero, i.size, i.bytes)) = some (some (.agg #[.int .i64 0, .int .i64 0, .slice none 0 0]), 3, 40) := by kernel_rfl

theorem make_anss (n : Nat) (hn : n ≤ 1677721) (u : World) : ∃ u', (Instr.makeSlice 34 (.int .i64 (n : Int)) (.int .i64 (n : Int))).run Try.prog u = .ok (.slice (some ⟨u.heap.size, 0, none⟩) n n) u' ∧
    (∀ k, k < n * 3 → (∃ x, u'.cell? ⟨u.heap.size, k, none⟩ = some x) ∧ u'.frozen? ⟨u.heap.size, k, none⟩ = false) ∧ Below u.heap.size u u' ∧ u.heap.size < u'.heap.size := by
  obtain ⟨i0, hi, hz0, hz1, hz2⟩ := info_parts infoY
  obtain ⟨u', h1, h2, h3⟩ := run_make_full (P := Try.prog) u u.heap.size 34 38 i0 _ 3 Try.underlying34 hi hz0 hz1 .i64 .i64 n (by rw [hz2]; omega) (by unfold maxLen; omega) (Nat.le_refl _)
  refine ⟨u', h1, ?_, (Below.refl _ _).grown h3 (Nat.le_refl _) (fun r hr => by cases hr), ?_⟩
  · intro k hk
    refine ⟨?_, World.ownsRow.frozenAt h2 k⟩
    rw [World.ownsRow.cellAt h2 k hk]
    have hl : k < (madeCells (Value.agg #[.int .i64 0, .int .i64 0, .slice none 0 0]).cells (n * 3)).toList.length := by
      rw [Array.length_toList, size_madeCells]; exact hk
    exact ⟨_, List.getElem?_eq_getElem hl⟩
  · exact (World.ownsRow.lt h2 u.heap.size rfl).2

/-- The first j answers of a row lie in block g, each with a row of its own for its fields behind g. -/
def LaidY (w : World) (g : Nat) (qs : List AnsD) (j : Nat) : Prop := ∀ i (h : i < qs.length), i < j → ∃ f, AnLie w g (i * 3) qs[i] f ∧ ownI w (g + 1) f qs[i].freed ∧ ∀ k, k < 3 → w.frozen? ⟨g, i * 3 + k, none⟩ = false
theorem laidY_rd {w : World} {g : Nat} {qs : List AnsD} (h : LaidY w g qs qs.length) (hg : g < w.heap.size) : RdY w (some ⟨g, 0, none⟩) qs := by
  intro j hj
  obtain ⟨f, h1, h2, -⟩ := h j hj hj
  obtain ⟨a, cap, rfl, h3⟩ := rdI_own' h2
  exact ⟨g, 0, a, cap, rfl, hg, by rw [Nat.zero_add]; exact h1, h3⟩
theorem laidY_later {w w' : World} {g j : Nat} {qs : List AnsD} (h : LaidY w g qs j) (hb : Below w.heap.size w w') (hg : g < w.heap.size) : LaidY w' g qs j := by
  intro i hi hij
  obtain ⟨f, h1, h2, h3⟩ := h i hi hij
  exact ⟨f, h1.keep (fun k => hb.cell (p := ⟨g, k, none⟩) hg), ownI_later h2 hb, fun k hk => (hb.frozen (p := ⟨g, i * 3 + k, none⟩) hg).trans (h3 k hk)⟩
theorem laidY_set {w : World} {g j : Nat} {qs : List AnsD} {f : Value} (h : LaidY w g qs j) (hj : j < qs.length) (hc : ∀ k, k < 3 → ∃ u, w.cell? ⟨g, j * 3 + k, none⟩ = some u) (ho : ownI w (g + 1) f qs[j].freed) (hf : ∀ k, k < 3 → w.frozen? ⟨g, j * 3 + k, none⟩ = false) : LaidY (setAn w g (j * 3) qs[j] f) g qs (j + 1) := by
  intro i hi hij
  by_cases he : i = j
  · subst he
    exact ⟨f, setAn_at w g (i * 3) qs[i] f hc, setAn_own g _ _ _ ho (by omega), fun k hk => by rw [setAn_frozen]; exact hf k hk⟩
  · obtain ⟨f2, h1, h2, h3⟩ := h i hi (by omega)
    refine ⟨f2, ⟨?_, ?_, ?_⟩, setAn_own g _ _ _ h2 (by omega), fun k hk => by rw [setAn_frozen]; exact h3 k hk⟩
    all_goals rw [setAn_other _ _ _ _ _ _ (by omega)]
    · exact h1.c0
    · exact h1.c1
    · exact h1.c2

theorem some_setAn (w : World) (g p : Nat) (o : AnsD) (f : Value) (a : Addr) (h : ∃ x, w.cell? a = some x) : ∃ x, (setAn w g p o f).cell? a = some x := by
  unfold setAn
  iterate 3 refine some_set _ _ _ _ ?_
  exact h

section
variable {T : Type} {enc : TypeId × Value → T} {w : World} {held : Bool}

end

end Go.Proofs.Ytjhdnachbahbmaa
