/- Rows of objects as the laws have them: what szObjS, toObjS and eqObjS do. -/
import Derived.Test.YtjhceoejblmihaaObjWalks
import Derived.Deep.RegionHeld
namespace Go.Proofs.Ytjhceoejblmihaa
open Go.RowKit
set_option linter.unusedVariables false

theorem ret_zz {k : IntKind} {a b : Int} (h : a = b) : Ending.returned (.int k a) = .returned (.int k b) := by rw [h]

/-- An object lies at place p of block g, f the slice of its fields. -/
structure ObjAt (w : World) (g p : Nat) (o : ObjD) (f : Value) : Prop where
  c0 : w.cell? ⟨g, p, none⟩ = some (.bool o.live)
  c1 : w.cell? ⟨g, p + 1, none⟩ = some (.int .i64 o.gen)
  c2 : w.cell? ⟨g, p + 2, none⟩ = some (.int .i64 o.site)
  c3 : w.cell? ⟨g, p + 3, none⟩ = some (.int .i64 o.holds)
  c4 : w.cell? ⟨g, p + 4, none⟩ = some (.int .i64 o.roots)
  c5 : w.cell? ⟨g, p + 5, none⟩ = some (.int .i64 o.count)
  c6 : w.cell? ⟨g, p + 6, none⟩ = some f
  c7 : w.cell? ⟨g, p + 7, none⟩ = some (.bool o.purple)
theorem ObjAt.keep {w w' : World} {g p : Nat} {o : ObjD} {f : Value} (h : ObjAt w g p o f) (hk : ∀ k, w'.cell? ⟨g, k, none⟩ = w.cell? ⟨g, k, none⟩) : ObjAt w' g p o f :=
  ⟨(hk _).trans h.c0, (hk _).trans h.c1, (hk _).trans h.c2, (hk _).trans h.c3, (hk _).trans h.c4, (hk _).trans h.c5, (hk _).trans h.c6, (hk _).trans h.c7⟩

/-- A row of objects as one who only reads has it. -/
def RdO (w : World) (a : Option Addr) (os : List ObjD) : Prop := ∀ j (h : j < os.length), ∃ g off f cap, a = some ⟨g, off, none⟩ ∧ g < w.heap.size ∧ ObjAt w g (off + j * 8) os[j] (.slice f os[j].field.length cap) ∧ RdI w f os[j].field
theorem rdO_later {w w' : World} {a : Option Addr} {os : List ObjD} (h : RdO w a os) (hb : Below w.heap.size w w') : RdO w' a os := by
  intro j hj
  obtain ⟨g, off, f, cap, ha, hg, hc, hr⟩ := h j hj
  exact ⟨g, off, f, cap, ha, Nat.lt_of_lt_of_le hg hb.size, hc.keep (fun k => hb.cell (p := ⟨g, k, none⟩) hg), rdI_later hr hb⟩

/-- What is left of a size behind objects. -/
def szOR : List ObjD → Int → Int
  | [], left => left
  | o :: r, left => if left - (o.field.length : Int) < 0 then -1 else szOR r (left - (o.field.length : Int))
def szO (os : List ObjD) (left : Int) : Int := if left - (os.length : Int) < 0 then -1 else szOR os (left - (os.length : Int))
theorem szOR_le (os : List ObjD) : ∀ left : Int, -1 ≤ left → szOR os left ≤ left ∧ -1 ≤ szOR os left := by
  induction os with
  | nil => intro left h; exact ⟨Int.le_refl _, h⟩
  | cons z r ih =>
    intro left h
    simp only [szOR]
    split
    · omega
    · have := ih (left - (z.field.length : Int)) (by omega); omega
theorem szO_le (os : List ObjD) (left : Int) (h : -1 ≤ left) : szO os left ≤ left ∧ -1 ≤ szO os left := by
  unfold szO; split
  · omega
  · have := szOR_le os (left - (os.length : Int)) (by omega); omega
theorem szOR_each (os : List ObjD) : ∀ left : Int, 0 ≤ szOR os left → ∀ z ∈ os, (z.field.length : Int) ≤ left := by
  induction os with
  | nil => intro left _ z hz; simp at hz
  | cons y r ih =>
    intro left h z hz
    simp only [szOR] at h
    split at h
    · omega
    · rcases List.mem_cons.1 hz with rfl | hz
      · omega
      · have := ih _ h z hz; omega
theorem szO_facts (os : List ObjD) (left : Int) (h : 0 ≤ szO os left) : (os.length : Int) ≤ left ∧ ∀ z ∈ os, (z.field.length : Int) ≤ left := by
  unfold szO at h
  split at h
  · omega
  · refine ⟨by omega, fun z hz => ?_⟩
    have := szOR_each os _ h z hz
    omega
theorem szOR_drop (os : List ObjD) (left : Int) (j : Nat) (h : j < os.length) : szOR (os.drop j) left = if left - (os[j].field.length : Int) < 0 then -1 else szOR (os.drop (j + 1)) (left - (os[j].field.length : Int)) := by
  rw [List.drop_eq_getElem_cons h]; rfl

theorem szObjS_calls (w : World) (a : Option Addr) (cap : Nat) (os : List ObjD) (left : Int) (h : RdO w a os) (hn : os.length ≤ 9223372036854775807) (hz : ∀ z ∈ os, z.field.length ≤ 9223372036854775807) (h0 : 0 ≤ left) (h1 : left ≤ 1048576) :
    Calls Try.prog 43 #[.slice a os.length cap, .int .i64 left] w fun e w' => e = .returned (.int .i64 (szO os left)) ∧ Below w.heap.size w w' := by
  have HA : Hid (RdO w a os) := h
  have HZ : Hid (∀ z ∈ os, z.field.length ≤ 9223372036854775807) := hz
  have HD : Hid (∀ (l : Int) (j : Nat) (h : j < os.length), szOR (os.drop j) l = _) := fun l j h => szOR_drop os l j h
  obtain ⟨n, hnn⟩ : ∃ n, os.length = n := ⟨_, rfl⟩
  have Hn : Hid (os.length = n) := hnn
  clear h hz
  by_cases hl : left - (n : Int) < 0
  · have HE : Hid (szO os left = -1) := by show _ = _; unfold szO; rw [hnn, if_pos hl]
    rw [hnn] at hn ⊢
    clear hnn
    go_enter Try.func43, Try.ntmps43
    go_wp2
    go_ret
    exact ⟨ret_zz HE.out.symm, Below.refl _ _⟩
  · have HE : Hid (szO os left = szOR (os.drop 0) (left - (n : Int))) := by show _ = _; unfold szO; rw [hnn, if_neg hl, List.drop_zero]
    have HF : Hid (∀ l, szOR (os.drop n) l = l) := by intro l; rw [← hnn, List.drop_length]; rfl
    rw [hnn] at hn ⊢
    have hl2 : (n : Int) ≤ left := by omega
    clear hnn hl
    go_enter Try.func43, Try.ntmps43
    go_wp2
    go_loopw [1, 5] (fun x i wr => ∃ (j : Nat) (l : Int), j ≤ n ∧ 0 ≤ l ∧ l ≤ left ∧ i = .int .i64 j ∧ x = .int .i64 l ∧ Hid (szO os left = szOR (os.drop j) l) ∧ Below w.heap.size w wr) (fun _ i _ => n - (intOf i).toNat)
    case atStart => exact ⟨0, left - (n : Int), by omega, by omega, by omega, rfl, rfl, HE, Below.refl _ _⟩
    case round =>
      obtain ⟨j, l, hj, hl0, hl1, rfl, rfl, HJ, hb⟩ := hrel
      by_cases hlt : j < n
      · have hj2 : j < os.length := by have := Hn.out; omega
        obtain ⟨g, off, f, fc, rfl, -, hc, -⟩ := (rdO_later HA.out hb) j hj2
        have hzl := HZ.out os[j] (List.getElem_mem hj2)
        have HD2 : Hid (_ = _) := HD.out l j hj2
        generalize os[j] = o at *
        have HSZ : Hid (∀ X, _) := fun X => szObj_calls X o f o.field.length fc l hzl hl0 (by omega)
        obtain ⟨c0, c1, c2, c3, c4, c5, c6, c7⟩ := hc
        unfold objV at HSZ
        obtain ⟨ol, og, os1, oh, orr, oc, ofl, op⟩ := o
        simp only at *
        by_cases hneg : l - (ofl.length : Int) < 0
        · have HR : Hid (szO os left = -1) := by show _ = _; rw [HJ.out, HD2.out, if_pos hneg]
          rw [if_pos hneg] at HSZ
          clear hneg
          go_wp2_with fail
          refine (HSZ.out _).mono ?_
          rintro e w1 ⟨rfl, b1⟩
          have B1 := hb.trans (b1.mono hb.size)
          go_wp2
          go_ret
          exact ⟨ret_zz HR.out.symm, B1⟩
        · have HR : Hid (szO os left = szOR (os.drop (j + 1)) (l - (ofl.length : Int))) := by show _ = _; rw [HJ.out, HD2.out, if_neg hneg]
          rw [if_neg hneg] at HSZ
          have hneg2 : 0 ≤ l - (ofl.length : Int) := by omega
          have hneg3 : l - (ofl.length : Int) ≤ left := by omega
          clear hneg
          generalize l - (ofl.length : Int) = l2 at *
          go_wp2_with fail
          refine (HSZ.out _).mono ?_
          rintro e w1 ⟨rfl, b1⟩
          have B1 := hb.trans (b1.mono hb.size)
          go_wp2
          go_roundw
          case rel => exact ⟨j + 1, l2, by omega, hneg2, hneg3, by go_num, rfl, HR, B1⟩
          case measure => simp [intOf]; omega
      · obtain rfl : j = n := by omega
        have HR : Hid (szO os left = l) := by show _ = _; rw [HJ.out, HF.out]
        go_wp2
        go_ret
        exact ⟨ret_zz HR.out.symm, hb⟩

/-- An object written at place p of block g. -/
def setObj (w : World) (g p : Nat) (o : ObjD) (f : Value) : World :=
  (((((((w.setCell ⟨g, p, none⟩ (.bool o.live)).setCell ⟨g, p + 1, none⟩ (.int .i64 o.gen)).setCell ⟨g, p + 2, none⟩ (.int .i64 o.site)).setCell ⟨g, p + 3, none⟩ (.int .i64 o.holds)).setCell ⟨g, p + 4, none⟩ (.int .i64 o.roots)).setCell ⟨g, p + 5, none⟩ (.int .i64 o.count)).setCell ⟨g, p + 6, none⟩ f).setCell ⟨g, p + 7, none⟩ (.bool o.purple)

theorem cell_far (w : World) (g p q : Nat) (u : Value) (h : p ≠ q) : (w.setCell ⟨g, p, none⟩ u).cell? ⟨g, q, none⟩ = w.cell? ⟨g, q, none⟩ := World.cell?_setCell_other _ _ _ _ (by intro e; exact h (by injection e))
theorem setObj_other (w : World) (g p q : Nat) (o : ObjD) (f : Value) (h : q < p ∨ p + 8 ≤ q) : (setObj w g p o f).cell? ⟨g, q, none⟩ = w.cell? ⟨g, q, none⟩ := by
  unfold setObj
  rw [cell_far _ _ _ _ _ (by omega), cell_far _ _ _ _ _ (by omega), cell_far _ _ _ _ _ (by omega), cell_far _ _ _ _ _ (by omega), cell_far _ _ _ _ _ (by omega), cell_far _ _ _ _ _ (by omega), cell_far _ _ _ _ _ (by omega), cell_far _ _ _ _ _ (by omega)]
theorem setObj_frozen (w : World) (g p : Nat) (o : ObjD) (f : Value) (a : Addr) : (setObj w g p o f).frozen? a = w.frozen? a := by
  unfold setObj; simp only [World.frozen?_setCell]
theorem setObj_at (w : World) (g p : Nat) (o : ObjD) (f : Value) (h : ∀ k, k < 8 → ∃ u, w.cell? ⟨g, p + k, none⟩ = some u) : ObjAt (setObj w g p o f) g p o f := by
  have same : ∀ (X : World) (q : Nat) (u v : Value), X.cell? ⟨g, q, none⟩ = some v → (X.setCell ⟨g, q, none⟩ u).cell? ⟨g, q, none⟩ = some u := fun X q u v hX => World.cell?_setCell_same X _ u hX
  obtain ⟨u0, h0⟩ := h 0 (by omega)
  obtain ⟨u1, h1⟩ := h 1 (by omega)
  obtain ⟨u2, h2⟩ := h 2 (by omega)
  obtain ⟨u3, h3⟩ := h 3 (by omega)
  obtain ⟨u4, h4⟩ := h 4 (by omega)
  obtain ⟨u5, h5⟩ := h 5 (by omega)
  obtain ⟨u6, h6⟩ := h 6 (by omega)
  obtain ⟨u7, h7⟩ := h 7 (by omega)
  rw [Nat.add_zero] at h0
  unfold setObj
  constructor
  · iterate 7 rw [cell_far _ _ _ _ _ (by omega)]
    exact same _ _ _ _ h0
  · iterate 6 rw [cell_far _ _ _ _ _ (by omega)]
    exact same _ _ _ _ (by iterate 1 rw [cell_far _ _ _ _ _ (by omega)]
                           exact h1)
  · iterate 5 rw [cell_far _ _ _ _ _ (by omega)]
    exact same _ _ _ _ (by iterate 2 rw [cell_far _ _ _ _ _ (by omega)]
                           exact h2)
  · iterate 4 rw [cell_far _ _ _ _ _ (by omega)]
    exact same _ _ _ _ (by iterate 3 rw [cell_far _ _ _ _ _ (by omega)]
                           exact h3)
  · iterate 3 rw [cell_far _ _ _ _ _ (by omega)]
    exact same _ _ _ _ (by iterate 4 rw [cell_far _ _ _ _ _ (by omega)]
                           exact h4)
  · iterate 2 rw [cell_far _ _ _ _ _ (by omega)]
    exact same _ _ _ _ (by iterate 5 rw [cell_far _ _ _ _ _ (by omega)]
                           exact h5)
  · iterate 1 rw [cell_far _ _ _ _ _ (by omega)]
    exact same _ _ _ _ (by iterate 6 rw [cell_far _ _ _ _ _ (by omega)]
                           exact h6)
  · exact same _ _ _ _ (by iterate 7 rw [cell_far _ _ _ _ _ (by omega)]
                           exact h7)
theorem setObj_own {w : World} {B : Nat} {v : Value} {zs : List Int} (g p : Nat) (o : ObjD) (f : Value) (h : ownI w B v zs) (hg : g < B) : ownI (setObj w g p o f) B v zs := by
  unfold setObj
  iterate 8 refine ownI_far _ _ ?_ hg
  exact h
theorem setObj_below {B : Nat} {a w : World} (g p : Nat) (o : ObjD) (f : Value) (h : Below B a w) (hg : B ≤ g) : Below B a (setObj w g p o f) := by
  unfold setObj
  iterate 8 refine Below.setCell ?_ hg _
  exact h
theorem setObj_size (w : World) (g p : Nat) (o : ObjD) (f : Value) : (setObj w g p o f).heap.size = w.heap.size := by
  unfold setObj; simp [World.setCell]

end Go.Proofs.Ytjhceoejblmihaa
