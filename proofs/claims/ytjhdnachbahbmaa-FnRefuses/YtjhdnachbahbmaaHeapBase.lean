/- Joined: ObjWalks, ObjsWalks, Objs2Walks, WeaksWalks, HeapWalks, Heap2Walks, OpenHeap, CapForm. -/
import Derived.Test.YtjhdnachbahbmaaIntsWalks
import Derived.Test.YtjhdnachbahbmaaInts2Walks
import Derived.Test.YtjhdnachbahbmaaStrsWalks
import Derived.Test.YtjhdnachbahbmaaOpenStrs
import Derived.Deep.RegionHeld
import Derived.ProofKit
import Derived.OpenShut
import Derived.ChangeSlices
import Derived.Deep.Slices
/- ObjWalks: Objects as the laws have them: what szObj, toObj and eqObj do. -/
namespace Go.Proofs.Ytjhdnachbahbmaa
open Go.RowKit
set_option linter.unusedVariables false

/-- An object's data. -/
structure ObjD where
  live : Bool
  gen : Int
  site : Int
  holds : Int
  roots : Int
  count : Int
  field : List Int
  purple : Bool
/-- Its value, f the slice of its fields. -/
def objV (o : ObjD) (f : Value) : Value := .agg #[.bool o.live, .int .i64 o.gen, .int .i64 o.site, .int .i64 o.holds, .int .i64 o.roots, .int .i64 o.count, f, .bool o.purple]

/-- A store elsewhere leaves a row of one's own. -/
theorem ownI_far {w : World} {B : Nat} {v : Value} {zs : List Int} (p : Addr) (u : Value) (h : ownI w B v zs) (hp : p.block < B) : ownI (w.setCell p u) B v zs := by
  rcases h with ⟨h1, h2 | ⟨g, cap, cur, h2, h3, h4, h5⟩⟩
  · exact ⟨h1, .inl h2⟩
  · refine ⟨h1, .inr ⟨g, cap, cur, h2, h3, ?_, h5⟩⟩
    rw [heap_setCell_other w p g u (by omega)]
    exact h4

end Go.Proofs.Ytjhdnachbahbmaa

/- ObjsWalks: Rows of objects as the laws have them: what szObjS, toObjS and eqObjS do. -/
namespace Go.Proofs.Ytjhdnachbahbmaa
open Go.RowKit
set_option linter.unusedVariables false

theorem ret_zz {k : IntKind} {a b : Int} (h : a = b) : Ending.returned (.int k a) = .returned (.int k b) := by rw [h]

/-- An object lies at place p of block g, f the slice of its fields. -/
structure ObjAt (w : World) (g p : Nat) (o : ObjD) (f : Value) : Prop where
  c0 : w.cell? ⟨g, p, none⟩ = some (.bool o.live)
  c1 : w.cell? ⟨g, p + 1, none⟩ = some (.int .i64 o.gen)
  c2 : w.cell? ⟨g, p + 2, none⟩ = some (.int .i64 o.site)
  c3 : w.cell? ⟨g, p + 3, none⟩ = some (.int .i64 o.holds)
  c4 : w.cell? ⟨g, p + 4, none⟩ = some (.int .i64 o.roots)
  c5 : w.cell? ⟨g, p + 5, none⟩ = some (.int .i64 o.count)
  c6 : w.cell? ⟨g, p + 6, none⟩ = some f
  c7 : w.cell? ⟨g, p + 7, none⟩ = some (.bool o.purple)
theorem ObjAt.keep {w w' : World} {g p : Nat} {o : ObjD} {f : Value} (h : ObjAt w g p o f) (hk : ∀ k, w'.cell? ⟨g, k, none⟩ = w.cell? ⟨g, k, none⟩) : ObjAt w' g p o f :=
  ⟨(hk _).trans h.c0, (hk _).trans h.c1, (hk _).trans h.c2, (hk _).trans h.c3, (hk _).trans h.c4, (hk _).trans h.c5, (hk _).trans h.c6, (hk _).trans h.c7⟩

/-- A row of objects as one who only reads has it. -/
def RdO (w : World) (a : Option Addr) (os : List ObjD) : Prop := ∀ j (h : j < os.length), ∃ g off f cap, a = some ⟨g, off, none⟩ ∧ g < w.heap.size ∧ ObjAt w g (off + j * 8) os[j] (.slice f os[j].field.length cap) ∧ RdI w f os[j].field
theorem rdO_later {w w' : World} {a : Option Addr} {os : List ObjD} (h : RdO w a os) (hb : Below w.heap.size w w') : RdO w' a os := by
  intro j hj
  obtain ⟨g, off, f, cap, ha, hg, hc, hr⟩ := h j hj
  exact ⟨g, off, f, cap, ha, Nat.lt_of_lt_of_le hg hb.size, hc.keep (fun k => hb.cell (p := ⟨g, k, none⟩) hg), rdI_later hr hb⟩

/-- What is left of a size behind objects. -/
def szOR : List ObjD → Int → Int
  | [], left => left
  | o :: r, left => if left - (o.field.length : Int) < 0 then -1 else szOR r (left - (o.field.length : Int))
def szO (os : List ObjD) (left : Int) : Int := if left - (os.length : Int) < 0 then -1 else szOR os (left - (os.length : Int))
theorem szOR_le (os : List ObjD) : ∀ left : Int, -1 ≤ left → szOR os left ≤ left ∧ -1 ≤ szOR os left := by
  induction os with
  | nil => intro left h; exact ⟨Int.le_refl _, h⟩
  | cons z r ih =>
    intro left h
    simp only [szOR]
    split
    · omega
    · have := ih (left - (z.field.length : Int)) (by omega); omega
theorem szO_le (os : List ObjD) (left : Int) (h : -1 ≤ left) : szO os left ≤ left ∧ -1 ≤ szO os left := by
  unfold szO; split
  · omega
  · have := szOR_le os (left - (os.length : Int)) (by omega); omega
theorem szOR_each (os : List ObjD) : ∀ left : Int, 0 ≤ szOR os left → ∀ z ∈ os, (z.field.length : Int) ≤ left := by
  induction os with
  | nil => intro left _ z hz; simp at hz
  | cons y r ih =>
    intro left h z hz
    simp only [szOR] at h
    split at h
    · omega
    · rcases List.mem_cons.1 hz with rfl | hz
      · omega
      · have := ih _ h z hz; omega
theorem szO_facts (os : List ObjD) (left : Int) (h : 0 ≤ szO os left) : (os.length : Int) ≤ left ∧ ∀ z ∈ os, (z.field.length : Int) ≤ left := by
  unfold szO at h
  split at h
  · omega
  · refine ⟨by omega, fun z hz => ?_⟩
    have := szOR_each os _ h z hz
    omega
theorem szOR_drop (os : List ObjD) (left : Int) (j : Nat) (h : j < os.length) : szOR (os.drop j) left = if left - (os[j].field.length : Int) < 0 then -1 else szOR (os.drop (j + 1)) (left - (os[j].field.length : Int)) := by
  rw [List.drop_eq_getElem_cons h]; rfl

/-- An object written at place p of block g. -/
def setObj (w : World) (g p : Nat) (o : ObjD) (f : Value) : World :=
  (((((((w.setCell ⟨g, p, none⟩ (.bool o.live)).setCell ⟨g, p + 1, none⟩ (.int .i64 o.gen)).setCell ⟨g, p + 2, none⟩ (.int .i64 o.site)).setCell ⟨g, p + 3, none⟩ (.int .i64 o.holds)).setCell ⟨g, p + 4, none⟩ (.int .i64 o.roots)).setCell ⟨g, p + 5, none⟩ (.int .i64 o.count)).setCell ⟨g, p + 6, none⟩ f).setCell ⟨g, p + 7, none⟩ (.bool o.purple)

theorem cell_far (w : World) (g p q : Nat) (u : Value) (h : p ≠ q) : (w.setCell ⟨g, p, none⟩ u).cell? ⟨g, q, none⟩ = w.cell? ⟨g, q, none⟩ := World.cell?_setCell_other _ _ _ _ (by intro e; exact h (by injection e))
theorem setObj_other (w : World) (g p q : Nat) (o : ObjD) (f : Value) (h : q < p ∨ p + 8 ≤ q) : (setObj w g p o f).cell? ⟨g, q, none⟩ = w.cell? ⟨g, q, none⟩ := by
  unfold setObj
  rw [cell_far _ _ _ _ _ (by omega), cell_far _ _ _ _ _ (by omega), cell_far _ _ _ _ _ (by omega), cell_far _ _ _ _ _ (by omega), cell_far _ _ _ _ _ (by omega), cell_far _ _ _ _ _ (by omega), cell_far _ _ _ _ _ (by omega), cell_far _ _ _ _ _ (by omega)]
theorem setObj_frozen (w : World) (g p : Nat) (o : ObjD) (f : Value) (a : Addr) : (setObj w g p o f).frozen? a = w.frozen? a := by
  unfold setObj; simp only [World.frozen?_setCell]
theorem setObj_at (w : World) (g p : Nat) (o : ObjD) (f : Value) (h : ∀ k, k < 8 → ∃ u, w.cell? ⟨g, p + k, none⟩ = some u) : ObjAt (setObj w g p o f) g p o f := by
  have same : ∀ (X : World) (q : Nat) (u v : Value), X.cell? ⟨g, q, none⟩ = some v → (X.setCell ⟨g, q, none⟩ u).cell? ⟨g, q, none⟩ = some u := fun X q u v hX => World.cell?_setCell_same X _ u hX
  obtain ⟨u0, h0⟩ := h 0 (by omega)
  obtain ⟨u1, h1⟩ := h 1 (by omega)
  obtain ⟨u2, h2⟩ := h 2 (by omega)
  obtain ⟨u3, h3⟩ := h 3 (by omega)
  obtain ⟨u4, h4⟩ := h 4 (by omega)
  obtain ⟨u5, h5⟩ := h 5 (by omega)
  obtain ⟨u6, h6⟩ := h 6 (by omega)
  obtain ⟨u7, h7⟩ := h 7 (by omega)
  rw [Nat.add_zero] at h0
  unfold setObj
  constructor
  · iterate 7 rw [cell_far _ _ _ _ _ (by omega)]
    exact same _ _ _ _ h0
  · iterate 6 rw [cell_far _ _ _ _ _ (by omega)]
    exact same _ _ _ _ (by iterate 1 rw [cell_far _ _ _ _ _ (by omega)]
                           exact h1)
  · iterate 5 rw [cell_far _ _ _ _ _ (by omega)]
    exact same _ _ _ _ (by iterate 2 rw [cell_far _ _ _ _ _ (by omega)]
                           exact h2)
  · iterate 4 rw [cell_far _ _ _ _ _ (by omega)]
    exact same _ _ _ _ (by iterate 3 rw [cell_far _ _ _ _ _ (by omega)]
                           exact h3)
  · iterate 3 rw [cell_far _ _ _ _ _ (by omega)]
    exact same _ _ _ _ (by iterate 4 rw [cell_far _ _ _ _ _ (by omega)]
                           exact h4)
  · iterate 2 rw [cell_far _ _ _ _ _ (by omega)]
    exact same _ _ _ _ (by iterate 5 rw [cell_far _ _ _ _ _ (by omega)]
                           exact h5)
  · iterate 1 rw [cell_far _ _ _ _ _ (by omega)]
    exact same _ _ _ _ (by iterate 6 rw [cell_far _ _ _ _ _ (by omega)]
                           exact h6)
  · exact same _ _ _ _ (by iterate 7 rw [cell_far _ _ _ _ _ (by omega)]
                           exact h7)
theorem setObj_own {w : World} {B : Nat} {v : Value} {zs : List Int} (g p : Nat) (o : ObjD) (f : Value) (h : ownI w B v zs) (hg : g < B) : ownI (setObj w g p o f) B v zs := by
  unfold setObj
  iterate 8 refine ownI_far _ _ ?_ hg
  exact h
theorem setObj_below {B : Nat} {a w : World} (g p : Nat) (o : ObjD) (f : Value) (h : Below B a w) (hg : B ≤ g) : Below B a (setObj w g p o f) := by
  unfold setObj
  iterate 8 refine Below.setCell ?_ hg _
  exact h
theorem setObj_size (w : World) (g p : Nat) (o : ObjD) (f : Value) : (setObj w g p o f).heap.size = w.heap.size := by
  unfold setObj; simp [World.setCell]

end Go.Proofs.Ytjhdnachbahbmaa

/- Objs2Walks: What toObjS and eqObjS do. -/
namespace Go.Proofs.Ytjhdnachbahbmaa
open Go.RowKit
set_option linter.unusedVariables false

theorem rdI_own' {w : World} {B : Nat} {v : Value} {zs : List Int} (h : ownI w B v zs) : ∃ a cap, v = .slice a zs.length cap ∧ RdI w a zs := by
  obtain ⟨a, cap, h1, h2⟩ := rdI_own h
  exact ⟨a, cap, h1, h2.out⟩

theorem infoO : (Try.prog.info? 50).map (fun i => (i.zero, i.size, i.bytes)) = some (some (.agg #[.bool false, .int .i64 0, .int .i64 0, .int .i64 0, .int .i64 0, .int .i64 0, .slice none 0 0, .bool false]), 8, 80) := by kernel_rfl

theorem make_objs (n : Nat) (hn : n ≤ 1677721) (u : World) : ∃ u', (Instr.makeSlice 29 (.int .i64 (n : Int)) (.int .i64 (n : Int))).run Try.prog u = .ok (.slice (some ⟨u.heap.size, 0, none⟩) n n) u' ∧
    (∀ k, k < n * 8 → (∃ x, u'.cell? ⟨u.heap.size, k, none⟩ = some x) ∧ u'.frozen? ⟨u.heap.size, k, none⟩ = false) ∧ Below u.heap.size u u' ∧ u.heap.size < u'.heap.size := by
  obtain ⟨i0, hi, hz0, hz1, hz2⟩ := info_parts infoO
  obtain ⟨u', h1, h2, h3⟩ := run_make_full (P := Try.prog) u u.heap.size 29 50 i0 _ 8 Try.underlying29 hi hz0 hz1 .i64 .i64 n (by rw [hz2]; omega) (by unfold maxLen; omega) (Nat.le_refl _)
  refine ⟨u', h1, ?_, (Below.refl _ _).grown h3 (Nat.le_refl _) (fun r hr => by cases hr), ?_⟩
  · intro k hk
    refine ⟨?_, World.ownsRow.frozenAt h2 k⟩
    rw [World.ownsRow.cellAt h2 k hk]
    have hl : k < (madeCells (Value.agg #[.bool false, .int .i64 0, .int .i64 0, .int .i64 0, .int .i64 0, .int .i64 0, .slice none 0 0, .bool false]).cells (n * 8)).toList.length := by
      rw [Array.length_toList, size_madeCells]; exact hk
    exact ⟨_, List.getElem?_eq_getElem hl⟩
  · exact (World.ownsRow.lt h2 u.heap.size rfl).2

/-- The first j objects of a row lie in block g, each with a row of its own for its fields behind g. -/
def LaidO (w : World) (g : Nat) (os : List ObjD) (j : Nat) : Prop := ∀ i (h : i < os.length), i < j → ∃ f, ObjAt w g (i * 8) os[i] f ∧ ownI w (g + 1) f os[i].field ∧ ∀ k, k < 8 → w.frozen? ⟨g, i * 8 + k, none⟩ = false
theorem laidO_rd {w : World} {g : Nat} {os : List ObjD} (h : LaidO w g os os.length) (hg : g < w.heap.size) : RdO w (some ⟨g, 0, none⟩) os := by
  intro j hj
  obtain ⟨f, h1, h2, -⟩ := h j hj hj
  obtain ⟨a, cap, rfl, h3⟩ := rdI_own' h2
  exact ⟨g, 0, a, cap, rfl, hg, by rw [Nat.zero_add]; exact h1, h3⟩
theorem laidO_later {w w' : World} {g j : Nat} {os : List ObjD} (h : LaidO w g os j) (hb : Below w.heap.size w w') (hg : g < w.heap.size) : LaidO w' g os j := by
  intro i hi hij
  obtain ⟨f, h1, h2, h3⟩ := h i hi hij
  exact ⟨f, h1.keep (fun k => hb.cell (p := ⟨g, k, none⟩) hg), ownI_later h2 hb, fun k hk => (hb.frozen (p := ⟨g, i * 8 + k, none⟩) hg).trans (h3 k hk)⟩
theorem laidO_set {w : World} {g j : Nat} {os : List ObjD} {f : Value} (h : LaidO w g os j) (hj : j < os.length) (hc : ∀ k, k < 8 → ∃ u, w.cell? ⟨g, j * 8 + k, none⟩ = some u) (ho : ownI w (g + 1) f os[j].field) (hf : ∀ k, k < 8 → w.frozen? ⟨g, j * 8 + k, none⟩ = false) : LaidO (setObj w g (j * 8) os[j] f) g os (j + 1) := by
  intro i hi hij
  by_cases he : i = j
  · subst he
    exact ⟨f, setObj_at w g (i * 8) os[i] f hc, setObj_own g _ _ _ ho (by omega), fun k hk => by rw [setObj_frozen]; exact hf k hk⟩
  · obtain ⟨f2, h1, h2, h3⟩ := h i hi (by omega)
    refine ⟨f2, ⟨?_, ?_, ?_, ?_, ?_, ?_, ?_, ?_⟩, setObj_own g _ _ _ h2 (by omega), fun k hk => by rw [setObj_frozen]; exact h3 k hk⟩
    all_goals rw [setObj_other _ _ _ _ _ _ (by omega)]
    · exact h1.c0
    · exact h1.c1
    · exact h1.c2
    · exact h1.c3
    · exact h1.c4
    · exact h1.c5
    · exact h1.c6
    · exact h1.c7

theorem some_set (w : World) (a p : Addr) (u : Value) (h : ∃ x, w.cell? a = some x) : ∃ x, (w.setCell p u).cell? a = some x := by
  obtain ⟨x, hx⟩ := h
  by_cases e : p = a
  · subst e; exact ⟨u, World.cell?_setCell_same w _ u hx⟩
  · exact ⟨x, by rw [World.cell?_setCell_other _ _ _ _ e]; exact hx⟩
theorem some_setObj (w : World) (g p : Nat) (o : ObjD) (f : Value) (a : Addr) (h : ∃ x, w.cell? a = some x) : ∃ x, (setObj w g p o f).cell? a = some x := by
  unfold setObj
  iterate 8 refine some_set _ _ _ _ ?_
  exact h

end Go.Proofs.Ytjhdnachbahbmaa

/- WeaksWalks: Weak handles as the laws have them: what szWeakS, toWeak, toWeakS, eqWeak and eqWeakS do. -/
namespace Go.Proofs.Ytjhdnachbahbmaa
open Go.RowKit
set_option linter.unusedVariables false

structure WeakD where
  used : Bool
  target : Int
def weakV (d : WeakD) : Value := .agg #[.bool d.used, .int .i64 d.target]

/-- A weak handle lies at place p of block g. -/
structure WeakAt (w : World) (g p : Nat) (d : WeakD) : Prop where
  c0 : w.cell? ⟨g, p, none⟩ = some (.bool d.used)
  c1 : w.cell? ⟨g, p + 1, none⟩ = some (.int .i64 d.target)
theorem WeakAt.keep {w w' : World} {g p : Nat} {d : WeakD} (h : WeakAt w g p d) (hk : ∀ k, w'.cell? ⟨g, k, none⟩ = w.cell? ⟨g, k, none⟩) : WeakAt w' g p d :=
  ⟨(hk _).trans h.c0, (hk _).trans h.c1⟩
def RdW (w : World) (a : Option Addr) (ds : List WeakD) : Prop := ∀ j (h : j < ds.length), ∃ g off, a = some ⟨g, off, none⟩ ∧ g < w.heap.size ∧ WeakAt w g (off + j * 2) ds[j]
theorem rdW_later {w w' : World} {a : Option Addr} {ds : List WeakD} (h : RdW w a ds) (hb : Below w.heap.size w w') : RdW w' a ds := by
  intro j hj
  obtain ⟨g, off, ha, hg, hc⟩ := h j hj
  exact ⟨g, off, ha, Nat.lt_of_lt_of_le hg hb.size, hc.keep (fun k => hb.cell (p := ⟨g, k, none⟩) hg)⟩

theorem infoW : (Try.prog.info? 63).map (fun i => (i.zero, i.size, i.bytes)) = some (some (.agg #[.bool false, .int .i64 0]), 2, 16) := by kernel_rfl
theorem make_weaks (n : Nat) (hn : n ≤ 1677721) (u : World) : ∃ u', (Instr.makeSlice 30 (.int .i64 (n : Int)) (.int .i64 (n : Int))).run Try.prog u = .ok (.slice (some ⟨u.heap.size, 0, none⟩) n n) u' ∧
    (∀ k, k < n * 2 → (∃ x, u'.cell? ⟨u.heap.size, k, none⟩ = some x) ∧ u'.frozen? ⟨u.heap.size, k, none⟩ = false) ∧ Below u.heap.size u u' ∧ u.heap.size < u'.heap.size := by
  obtain ⟨i0, hi, hz0, hz1, hz2⟩ := info_parts infoW
  obtain ⟨u', h1, h2, h3⟩ := run_make_full (P := Try.prog) u u.heap.size 30 63 i0 _ 2 Try.underlying30 hi hz0 hz1 .i64 .i64 n (by rw [hz2]; omega) (by unfold maxLen; omega) (Nat.le_refl _)
  refine ⟨u', h1, ?_, (Below.refl _ _).grown h3 (Nat.le_refl _) (fun r hr => by cases hr), ?_⟩
  · intro k hk
    refine ⟨?_, World.ownsRow.frozenAt h2 k⟩
    rw [World.ownsRow.cellAt h2 k hk]
    have hl : k < (madeCells (Value.agg #[.bool false, .int .i64 0]).cells (n * 2)).toList.length := by
      rw [Array.length_toList, size_madeCells]; exact hk
    exact ⟨_, List.getElem?_eq_getElem hl⟩
  · exact (World.ownsRow.lt h2 u.heap.size rfl).2

def setWeak (w : World) (g p : Nat) (d : WeakD) : World := (w.setCell ⟨g, p, none⟩ (.bool d.used)).setCell ⟨g, p + 1, none⟩ (.int .i64 d.target)
theorem setWeak_other (w : World) (g p q : Nat) (d : WeakD) (h : q < p ∨ p + 2 ≤ q) : (setWeak w g p d).cell? ⟨g, q, none⟩ = w.cell? ⟨g, q, none⟩ := by
  unfold setWeak
  rw [cell_far _ _ _ _ _ (by omega), cell_far _ _ _ _ _ (by omega)]
theorem setWeak_at (w : World) (g p : Nat) (d : WeakD) (h : ∀ k, k < 2 → ∃ u, w.cell? ⟨g, p + k, none⟩ = some u) : WeakAt (setWeak w g p d) g p d := by
  have same : ∀ (X : World) (q : Nat) (u v : Value), X.cell? ⟨g, q, none⟩ = some v → (X.setCell ⟨g, q, none⟩ u).cell? ⟨g, q, none⟩ = some u := fun X q u v hX => World.cell?_setCell_same X _ u hX
  obtain ⟨u0, h0⟩ := h 0 (by omega)
  obtain ⟨u1, h1⟩ := h 1 (by omega)
  rw [Nat.add_zero] at h0
  unfold setWeak
  constructor
  · rw [cell_far _ _ _ _ _ (by omega)]
    exact same _ _ _ _ h0
  · exact same _ _ _ _ (by rw [cell_far _ _ _ _ _ (by omega)]; exact h1)

/-- The first j weak handles of a row lie in block g. -/
def LaidW (w : World) (g : Nat) (ds : List WeakD) (j : Nat) : Prop := ∀ i (h : i < ds.length), i < j → WeakAt w g (i * 2) ds[i] ∧ ∀ k, k < 2 → w.frozen? ⟨g, i * 2 + k, none⟩ = false
theorem laidW_rd {w : World} {g : Nat} {ds : List WeakD} (h : LaidW w g ds ds.length) (hg : g < w.heap.size) : RdW w (some ⟨g, 0, none⟩) ds :=
  fun j hj => ⟨g, 0, rfl, hg, by rw [Nat.zero_add]; exact (h j hj hj).1⟩
theorem laidW_later {w w' : World} {g j : Nat} {ds : List WeakD} (h : LaidW w g ds j) (hb : Below w.heap.size w w') (hg : g < w.heap.size) : LaidW w' g ds j :=
  fun i hi hij => ⟨(h i hi hij).1.keep (fun k => hb.cell (p := ⟨g, k, none⟩) hg), fun k hk => (hb.frozen (p := ⟨g, i * 2 + k, none⟩) hg).trans ((h i hi hij).2 k hk)⟩
theorem laidW_set {w : World} {g j : Nat} {ds : List WeakD} (h : LaidW w g ds j) (hj : j < ds.length) (hc : ∀ k, k < 2 → ∃ u, w.cell? ⟨g, j * 2 + k, none⟩ = some u) (hf : ∀ k, k < 2 → w.frozen? ⟨g, j * 2 + k, none⟩ = false) : LaidW (setWeak w g (j * 2) ds[j]) g ds (j + 1) := by
  intro i hi hij
  by_cases he : i = j
  · subst he
    exact ⟨setWeak_at w g (i * 2) ds[i] hc, fun k hk => by unfold setWeak; rw [World.frozen?_setCell, World.frozen?_setCell]; exact hf k hk⟩
  · have h1 := (h i hi (by omega)).1
    exact ⟨⟨by rw [setWeak_other _ _ _ _ _ (by omega)]; exact h1.c0, by rw [setWeak_other _ _ _ _ _ (by omega)]; exact h1.c1⟩, fun k hk => by unfold setWeak; rw [World.frozen?_setCell, World.frozen?_setCell]; exact (h i hi (by omega)).2 k hk⟩

end Go.Proofs.Ytjhdnachbahbmaa

/- HeapWalks: Heaps as the laws have them: what szHeap, toHeap and eqHeap do. -/
namespace Go.Proofs.Ytjhdnachbahbmaa
open Go.RowKit
set_option linter.unusedVariables false

/-- A heap's data. -/
structure HeapD where
  objs : List ObjD
  weaks : List WeakD
  buffer : List Int
  sites : List (List UInt8)
/-- A heap's value, as one who only reads has it. -/
def RdH (w : World) (v : Value) (H : HeapD) : Prop := ∃ ao co aw cw ab cb sa sc, v = .agg #[.slice ao H.objs.length co, .slice aw H.weaks.length cw, .slice ab H.buffer.length cb, .slice sa H.sites.length sc] ∧ RdO w ao H.objs ∧ RdW w aw H.weaks ∧ RdI w ab H.buffer ∧ RdS w sa H.sites
theorem rdH_later {w w' : World} {v : Value} {H : HeapD} (h : RdH w v H) (hb : Below w.heap.size w w') : RdH w' v H := by
  obtain ⟨ao, co, aw, cw, ab, cb, sa, sc, h1, h2, h3, h4, h5⟩ := h
  exact ⟨ao, co, aw, cw, ab, cb, sa, sc, h1, rdO_later h2 hb, rdW_later h3 hb, rdI_later h4 hb, rdS_later h5 hb⟩

/-- Each number is an int. -/
def in64 (z : Int) : Prop := -9223372036854775808 ≤ z ∧ z ≤ 9223372036854775807
def WfO (o : ObjD) : Prop := in64 o.gen ∧ in64 o.site ∧ in64 o.holds ∧ in64 o.roots ∧ in64 o.count ∧ ∀ z ∈ o.field, in64 z
structure WfH (H : HeapD) : Prop where
  objs : ∀ o ∈ H.objs, WfO o
  weaks : ∀ d ∈ H.weaks, in64 d.target
  buffer : ∀ z ∈ H.buffer, in64 z

/-- No part of it is longer than a slice can be, and each number is an int. -/
structure SaneH (H : HeapD) : Prop where
  wf : WfH H
  objs : H.objs.length ≤ 9223372036854775807
  fields : ∀ z ∈ H.objs, z.field.length ≤ 9223372036854775807
  weaks : H.weaks.length ≤ 9223372036854775807
  buffer : H.buffer.length ≤ 9223372036854775807
  sites : H.sites.length ≤ 9223372036854775807
  names : ∀ z ∈ H.sites, z.length ≤ 9223372036854775807
/-- Each part of it is of at most 2^20. -/
structure SmallH (H : HeapD) : Prop where
  objs : H.objs.length ≤ 1048576
  fields : ∀ z ∈ H.objs, z.field.length ≤ 1048576
  weaks : H.weaks.length ≤ 1048576
  buffer : H.buffer.length ≤ 1048576
  sites : H.sites.length ≤ 1048576
  names : ∀ z ∈ H.sites, z.length ≤ 1048576

def szN (n : Nat) (left : Int) : Int := if left - (n : Int) < 0 then -1 else left - (n : Int)
theorem szN_le (n : Nat) (left : Int) (h : -1 ≤ left) : szN n left ≤ left ∧ -1 ≤ szN n left := by unfold szN; split <;> omega
theorem szS_le (zs : List (List UInt8)) (left : Int) (h : -1 ≤ left) : szS zs left ≤ left ∧ -1 ≤ szS zs left := by
  unfold szS; split
  · omega
  · have := szR_le zs (left - (zs.length : Int)) (by omega); omega
/-- What is left of a size behind a heap. -/
def szH (H : HeapD) (left : Int) : Int :=
  if szO H.objs left < 0 then -1
  else if szN H.weaks.length (szO H.objs left) < 0 then -1
  else if szN H.buffer.length (szN H.weaks.length (szO H.objs left)) < 0 then -1
  else if szS H.sites (szN H.buffer.length (szN H.weaks.length (szO H.objs left))) < 0 then -1
  else szS H.sites (szN H.buffer.length (szN H.weaks.length (szO H.objs left)))
theorem szH_small (H : HeapD) (h : ¬ szH H 1048576 < 0) : SmallH H := by
  unfold szH at h
  have hl := szO_le H.objs 1048576 (by omega)
  split at h
  · omega
  rename_i h1
  have hl2 := szN_le H.weaks.length (szO H.objs 1048576) (by omega)
  split at h
  · omega
  rename_i h2
  have hl3 := szN_le H.buffer.length (szN H.weaks.length (szO H.objs 1048576)) (by omega)
  split at h
  · omega
  rename_i h3
  split at h
  · omega
  rename_i h4
  obtain ⟨a1, a2⟩ := szO_facts H.objs 1048576 (by omega)
  obtain ⟨b1, b2⟩ := szS_facts H.sites _ (Int.not_lt.1 h4)
  have c1 : (H.weaks.length : Int) ≤ szO H.objs 1048576 := by unfold szN at h2; split at h2 <;> omega
  have c2 : (H.buffer.length : Int) ≤ szN H.weaks.length (szO H.objs 1048576) := by unfold szN at h3 ⊢; split at h3 <;> omega
  exact ⟨by omega, fun z hz => by have := a2 z hz; omega, by omega, by omega, by omega, fun z hz => by have := b2 z hz; omega⟩

/-- A new block of four slices, in every later world. -/
theorem four_kept (w : World) (t : TypeId) (x0 x1 x2 x3 : Value) (X : World) (hb : Below (w.heap.size + 1) (w.alloc (.cells #[x0, x1, x2, x3] t)) X) :
    X.cell? ⟨w.heap.size, 0, none⟩ = some x0 ∧ X.cell? ⟨w.heap.size, 1, none⟩ = some x1 ∧ X.cell? ⟨w.heap.size, 2, none⟩ = some x2 ∧ X.cell? ⟨w.heap.size, 3, none⟩ = some x3 := by
  have h : ∀ k, X.cell? ⟨w.heap.size, k, none⟩ = (#[x0, x1, x2, x3] : Array Value)[k]? := fun k => by
    rw [hb.cell (p := ⟨w.heap.size, k, none⟩) (by show w.heap.size < _; omega), World.cell?_alloc_mark]
  exact ⟨h 0, h 1, h 2, h 3⟩

end Go.Proofs.Ytjhdnachbahbmaa

/- Heap2Walks: What toHeap and eqHeap do. -/
namespace Go.Proofs.Ytjhdnachbahbmaa
open Go.RowKit
set_option linter.unusedVariables false

theorem keep_far {w : World} {g : Nat} (p : Addr) (u : Value) (h : p.block ≠ g) (k : Nat) : (w.setCell p u).cell? ⟨g, k, none⟩ = w.cell? ⟨g, k, none⟩ :=
  World.cell?_setCell_other _ _ _ _ (by intro e; exact h (by rw [e]))
theorem laidO_far {w : World} {g j : Nat} {os : List ObjD} (p : Addr) (u : Value) (h : LaidO w g os j) (hp : p.block < g) : LaidO (w.setCell p u) g os j := by
  intro i hi hij
  obtain ⟨f, h1, h2, h3⟩ := h i hi hij
  exact ⟨f, h1.keep (fun k => keep_far p u (by omega) k), ownI_far p u h2 (by omega), fun k hk => by rw [World.frozen?_setCell]; exact h3 k hk⟩
theorem laidW_far {w : World} {g j : Nat} {ds : List WeakD} (p : Addr) (u : Value) (h : LaidW w g ds j) (hp : p.block < g) : LaidW (w.setCell p u) g ds j :=
  fun i hi hij => ⟨(h i hi hij).1.keep (fun k => keep_far p u (by omega) k), fun k hk => by rw [World.frozen?_setCell]; exact (h i hi hij).2 k hk⟩
theorem ownS_far {w : World} {B : Nat} {v : Value} {zs : List (List UInt8)} (p : Addr) (u : Value) (h : ownS w B v zs) (hp : p.block < B) : ownS (w.setCell p u) B v zs := by
  rcases h with ⟨h1, h2 | ⟨g, cap, cur, h2, h3, h4, h5⟩⟩
  · exact ⟨h1, .inl h2⟩
  · refine ⟨h1, .inr ⟨g, cap, cur, h2, h3, ?_, h5⟩⟩
    rw [heap_setCell_other w p g u (by omega)]
    exact h4

/-- A heap whose rows are all new, at or behind block B. -/
def OwnH (w : World) (B : Nat) (v : Value) (H : HeapD) : Prop := ∃ go gw vb vs, v = .agg #[.slice (some ⟨go, 0, none⟩) H.objs.length H.objs.length, .slice (some ⟨gw, 0, none⟩) H.weaks.length H.weaks.length, vb, vs] ∧
  B ≤ go ∧ go < w.heap.size ∧ LaidO w go H.objs H.objs.length ∧ B ≤ gw ∧ gw < w.heap.size ∧ LaidW w gw H.weaks H.weaks.length ∧ ownI w B vb H.buffer ∧ ownS w B vs H.sites
theorem ownH_rd {w : World} {B : Nat} {v : Value} {H : HeapD} (h : OwnH w B v H) : RdH w v H := by
  obtain ⟨go, gw, vb, vs, rfl, -, h1, h2, -, h3, h4, h5, h6⟩ := h
  obtain ⟨ab, cb, rfl, hb⟩ := rdI_own' h5
  obtain ⟨sa, sc, rfl, hs⟩ := rdS_own h6
  exact ⟨_, _, _, _, ab, cb, sa, sc, rfl, laidO_rd h2 h1, laidW_rd h4 h3, hb, hs.out⟩
theorem ownH_later {w w' : World} {B : Nat} {v : Value} {H : HeapD} (h : OwnH w B v H) (hb : Below w.heap.size w w') : OwnH w' B v H := by
  obtain ⟨go, gw, vb, vs, rfl, b1, h1, h2, b2, h3, h4, h5, h6⟩ := h
  exact ⟨go, gw, vb, vs, rfl, b1, Nat.lt_of_lt_of_le h1 hb.size, laidO_later h2 hb h1, b2, Nat.lt_of_lt_of_le h3 hb.size, laidW_later h4 hb h3, ownI_later h5 hb, ownS_later h6 hb⟩

/-- The three blocks that toHeap works with: what came in, the result, and the one that is filled. -/
structure Frm (s : Nat) (X : World) (ps xs : Array Value) : Prop where
  p : ∀ k, X.cell? ⟨s, k, none⟩ = ps[k]?
  r : ∀ k, X.cell? ⟨s + 1, k, none⟩ = (#[Value.slice none 0 0, .slice none 0 0, .slice none 0 0, .slice none 0 0] : Array Value)[k]?
  o : ∀ k, X.cell? ⟨s + 1 + 1, k, none⟩ = xs[k]?
  fr : ∀ k, X.frozen? ⟨s + 1, k, none⟩ = false
  fo : ∀ k, X.frozen? ⟨s + 1 + 1, k, none⟩ = false
  sz : s + 1 + 1 < X.heap.size
theorem Frm.later {s : Nat} {X Y : World} {ps xs : Array Value} (h : Frm s X ps xs) (hb : Below X.heap.size X Y) : Frm s Y ps xs := by
  have hs := h.sz
  refine ⟨fun k => ?_, fun k => ?_, fun k => ?_, fun k => ?_, fun k => ?_, Nat.lt_of_lt_of_le hs hb.size⟩
  · rw [hb.cell (p := ⟨s, k, none⟩) (by show s < _; omega)]; exact h.p k
  · rw [hb.cell (p := ⟨s + 1, k, none⟩) (by show s + 1 < _; omega)]; exact h.r k
  · rw [hb.cell (p := ⟨s + 1 + 1, k, none⟩) hs]; exact h.o k
  · rw [hb.frozen (p := ⟨s + 1, k, none⟩) (by show s + 1 < _; omega)]; exact h.fr k
  · rw [hb.frozen (p := ⟨s + 1 + 1, k, none⟩) hs]; exact h.fo k
theorem Frm.set {s : Nat} {X : World} {ps xs : Array Value} (h : Frm s X ps xs) (i : Nat) (u : Value) (hi : i < xs.size) : Frm s (X.setCell ⟨s + 1 + 1, i, none⟩ u) ps (xs.setIfInBounds i u) := by
  have hs := h.sz
  refine ⟨fun k => ?_, fun k => ?_, fun k => ?_, fun k => ?_, fun k => ?_, by simpa [World.setCell] using hs⟩
  · rw [keep_far _ _ (by show s + 1 + 1 ≠ s; omega)]; exact h.p k
  · rw [keep_far _ _ (by show s + 1 + 1 ≠ s + 1; omega)]; exact h.r k
  · by_cases e : i = k
    · subst e
      rw [World.cell?_setCell_same X _ u ((h.o i).trans (Array.getElem?_eq_getElem hi)), Array.getElem?_setIfInBounds_self_of_lt hi]
    · rw [cell_far _ _ _ _ _ e, h.o k, Array.getElem?_setIfInBounds_ne e]
  · rw [World.frozen?_setCell]; exact h.fr k
  · rw [World.frozen?_setCell]; exact h.fo k

end Go.Proofs.Ytjhdnachbahbmaa

/- OpenHeap: An argument that is a heap, opened: what one who only reads has of it. -/
namespace Go.Proofs.Ytjhdnachbahbmaa
open Go.RowKit Go.ChangeShapes Go.WideShapes Go.ChangeAt Go.Deep
set_option linter.unusedVariables false
set_option maxRecDepth 100000

theorem in64_wf {z : Int} (h : (Lit.int .i64 z).wf = true) : in64 z := by unfold in64; simpa [Lit.wf, IntKind.min, IntKind.max, IntKind.signed, IntKind.bits] using h

section
variable {T : Type} {enc : TypeId × Value → T} {w : World} {held : Bool}

theorem opened_ints {fuel : Nat} {cs : List Value} {x : DataW T × List MemPlace} (h : DataW.trod enc Try.prog w 0 (fun _ => true) held fuel 28 cs = some x) :
    ∃ a zs cap, cs = [.slice a zs.length cap] ∧ RdI w a zs ∧ zs.length ≤ 9223372036854775807 ∧ ∀ z ∈ zs, in64 z := by
  rcases open_ints Try.underlying28 Try.underlying3 (by kernel_rfl) h with ⟨rfl, _⟩ | ⟨x, len, cap, zs, rfl, _, hl, hm, hz, _, hcell, hwf⟩
  · exact ⟨none, [], 0, rfl, fun j hj => by simp at hj, by simp, by simp⟩
  · have hz2 : zs.length = cap := by simpa using hz
    have ht : (zs.take len).length = len := by rw [List.length_take]; omega
    unfold maxLen at hm
    refine ⟨some x, zs.take len, cap, by rw [ht], ?_, by omega, fun z hz => in64_wf (hwf z (List.mem_of_mem_take hz))⟩
    intro j hj
    rw [ht] at hj
    obtain ⟨b, off, rfl⟩ := plain_addr (hcell 0 (by omega))
    have hc := hcell j (by omega)
    rw [add_plain, List.getD_eq_getElem?_getD, List.getElem?_eq_getElem (by omega)] at hc
    refine ⟨b, off, rfl, World.block_lt_of_cell? w _ hc, ?_⟩
    rw [hc, List.getElem_take]
    rfl

end

end Go.Proofs.Ytjhdnachbahbmaa

/- CapForm: Heaps' values no slice of which is longer than its capacity. -/
namespace Go.Proofs.Ytjhdnachbahbmaa
open Go.RowKit
set_option linter.unusedVariables false

/-- No slice of a heap's value is longer than its capacity. -/
def CapH (v : Value) : Prop := ∃ a0 n0 k0 a1 n1 k1 a2 n2 k2 a3 n3 k3, v = .agg #[.slice a0 n0 k0, .slice a1 n1 k1, .slice a2 n2 k2, .slice a3 n3 k3] ∧ n0 ≤ k0 ∧ n1 ≤ k1 ∧ n2 ≤ k2 ∧ n3 ≤ k3
theorem ownH_cap {w : World} {B : Nat} {v : Value} {H : HeapD} (h : OwnH w B v H) : CapH v := by
  obtain ⟨go, gw, vb, vs, rfl, -, -, -, -, -, -, h5, h6⟩ := h
  have hb : ∃ a n k, vb = .slice a n k ∧ n ≤ k := by
    rcases ownI_form h5 with ⟨rfl, -⟩ | ⟨g, cap, rfl, -, -, hc, -, -⟩
    · exact ⟨_, _, _, rfl, Nat.le_refl _⟩
    · exact ⟨_, _, _, rfl, hc⟩
  have hs : ∃ a n k, vs = .slice a n k ∧ n ≤ k := by
    rcases ownS_form h6 with ⟨rfl, -⟩ | ⟨g, cap, rfl, -, -, hc, -, -⟩
    · exact ⟨_, _, _, rfl, Nat.le_refl _⟩
    · exact ⟨_, _, _, rfl, hc⟩
  obtain ⟨a, n, k, rfl, hn⟩ := hb
  obtain ⟨a', n', k', rfl, hn'⟩ := hs
  exact ⟨_, _, _, _, _, _, _, _, _, _, _, _, rfl, Nat.le_refl _, Nat.le_refl _, hn, hn'⟩

end Go.Proofs.Ytjhdnachbahbmaa
