/- What toObjS and eqObjS do. -/
import Derived.Test.YtjhceoejblmihaaObjsWalks
namespace Go.Proofs.Ytjhceoejblmihaa
open Go.RowKit
set_option linter.unusedVariables false

theorem rdI_own' {w : World} {B : Nat} {v : Value} {zs : List Int} (h : ownI w B v zs) : ∃ a cap, v = .slice a zs.length cap ∧ RdI w a zs := by
  obtain ⟨a, cap, h1, h2⟩ := rdI_own h
  exact ⟨a, cap, h1, h2.out⟩

theorem infoO : (Try.prog.info? 61).map (fun i => (i.zero, i.size, i.bytes)) = some (some (.agg #[.bool false, .int .i64 0, .int .i64 0, .int .i64 0, .int .i64 0, .int .i64 0, .slice none 0 0, .bool false]), 8, 80) := by kernel_rfl

theorem make_objs (n : Nat) (hn : n ≤ 1677721) (u : World) : ∃ u', (Instr.makeSlice 32 (.int .i64 (n : Int)) (.int .i64 (n : Int))).run Try.prog u = .ok (.slice (some ⟨u.heap.size, 0, none⟩) n n) u' ∧
    (∀ k, k < n * 8 → (∃ x, u'.cell? ⟨u.heap.size, k, none⟩ = some x) ∧ u'.frozen? ⟨u.heap.size, k, none⟩ = false) ∧ Below u.heap.size u u' ∧ u.heap.size < u'.heap.size := by
  obtain ⟨i0, hi, hz0, hz1, hz2⟩ := info_parts infoO
  obtain ⟨u', h1, h2, h3⟩ := run_make_full (P := Try.prog) u u.heap.size 32 61 i0 _ 8 Try.underlying32 hi hz0 hz1 .i64 .i64 n (by rw [hz2]; omega) (by unfold maxLen; omega) (Nat.le_refl _)
  refine ⟨u', h1, ?_, (Below.refl _ _).grown h3 (Nat.le_refl _) (fun r hr => by cases hr), ?_⟩
  · intro k hk
    refine ⟨?_, World.ownsRow.frozenAt h2 k⟩
    rw [World.ownsRow.cellAt h2 k hk]
    have hl : k < (madeCells (Value.agg #[.bool false, .int .i64 0, .int .i64 0, .int .i64 0, .int .i64 0, .int .i64 0, .slice none 0 0, .bool false]).cells (n * 8)).toList.length := by
      rw [Array.length_toList, size_madeCells]; exact hk
    exact ⟨_, List.getElem?_eq_getElem hl⟩
  · exact (World.ownsRow.lt h2 u.heap.size rfl).2

/-- The first j objects of a row lie in block g, each with a row of its own for its fields behind g. -/
def LaidO (w : World) (g : Nat) (os : List ObjD) (j : Nat) : Prop := ∀ i (h : i < os.length), i < j → ∃ f, ObjAt w g (i * 8) os[i] f ∧ ownI w (g + 1) f os[i].field ∧ ∀ k, k < 8 → w.frozen? ⟨g, i * 8 + k, none⟩ = false
theorem laidO_rd {w : World} {g : Nat} {os : List ObjD} (h : LaidO w g os os.length) (hg : g < w.heap.size) : RdO w (some ⟨g, 0, none⟩) os := by
  intro j hj
  obtain ⟨f, h1, h2, -⟩ := h j hj hj
  obtain ⟨a, cap, rfl, h3⟩ := rdI_own' h2
  exact ⟨g, 0, a, cap, rfl, hg, by rw [Nat.zero_add]; exact h1, h3⟩
theorem laidO_later {w w' : World} {g j : Nat} {os : List ObjD} (h : LaidO w g os j) (hb : Below w.heap.size w w') (hg : g < w.heap.size) : LaidO w' g os j := by
  intro i hi hij
  obtain ⟨f, h1, h2, h3⟩ := h i hi hij
  exact ⟨f, h1.keep (fun k => hb.cell (p := ⟨g, k, none⟩) hg), ownI_later h2 hb, fun k hk => (hb.frozen (p := ⟨g, i * 8 + k, none⟩) hg).trans (h3 k hk)⟩
theorem laidO_set {w : World} {g j : Nat} {os : List ObjD} {f : Value} (h : LaidO w g os j) (hj : j < os.length) (hc : ∀ k, k < 8 → ∃ u, w.cell? ⟨g, j * 8 + k, none⟩ = some u) (ho : ownI w (g + 1) f os[j].field) (hf : ∀ k, k < 8 → w.frozen? ⟨g, j * 8 + k, none⟩ = false) : LaidO (setObj w g (j * 8) os[j] f) g os (j + 1) := by
  intro i hi hij
  by_cases he : i = j
  · subst he
    exact ⟨f, setObj_at w g (i * 8) os[i] f hc, setObj_own g _ _ _ ho (by omega), fun k hk => by rw [setObj_frozen]; exact hf k hk⟩
  · obtain ⟨f2, h1, h2, h3⟩ := h i hi (by omega)
    refine ⟨f2, ⟨?_, ?_, ?_, ?_, ?_, ?_, ?_, ?_⟩, setObj_own g _ _ _ h2 (by omega), fun k hk => by rw [setObj_frozen]; exact h3 k hk⟩
    all_goals rw [setObj_other _ _ _ _ _ _ (by omega)]
    · exact h1.c0
    · exact h1.c1
    · exact h1.c2
    · exact h1.c3
    · exact h1.c4
    · exact h1.c5
    · exact h1.c6
    · exact h1.c7

theorem some_set (w : World) (a p : Addr) (u : Value) (h : ∃ x, w.cell? a = some x) : ∃ x, (w.setCell p u).cell? a = some x := by
  obtain ⟨x, hx⟩ := h
  by_cases e : p = a
  · subst e; exact ⟨u, World.cell?_setCell_same w _ u hx⟩
  · exact ⟨x, by rw [World.cell?_setCell_other _ _ _ _ e]; exact hx⟩
theorem some_setObj (w : World) (g p : Nat) (o : ObjD) (f : Value) (a : Addr) (h : ∃ x, w.cell? a = some x) : ∃ x, (setObj w g p o f).cell? a = some x := by
  unfold setObj
  iterate 8 refine some_set _ _ _ _ ?_
  exact h

theorem toObjS_calls (w : World) (a : Option Addr) (cap : Nat) (os : List ObjD) (h : RdO w a os) (hn : os.length ≤ 1677721) (hz : ∀ z ∈ os, z.field.length ≤ 16777216) :
    Calls Try.prog 47 #[.slice a os.length cap] w fun e w' => e = .returned (.slice (some ⟨w.heap.size, 0, none⟩) os.length os.length) ∧ LaidO w' w.heap.size os os.length ∧ w.heap.size < w'.heap.size ∧ Below w.heap.size w w' := by
  have HA : Hid (RdO w a os) := h
  have HZ : Hid (∀ z ∈ os, z.field.length ≤ 16777216) := hz
  obtain ⟨u, hmk, hc0, B0, hlt0⟩ := make_objs os.length hn w
  have HC0 : Hid (∀ k, k < os.length * 8 → (∃ x, u.cell? ⟨w.heap.size, k, none⟩ = some x) ∧ u.frozen? ⟨w.heap.size, k, none⟩ = false) := hc0
  obtain ⟨n, hnn⟩ : ∃ n, os.length = n := ⟨_, rfl⟩
  have Hn : Hid (os.length = n) := hnn
  rw [hnn] at hn hmk HC0 ⊢
  clear h hz hc0 hnn
  go_enter Try.func47, Try.ntmps47
  go_wp2
  go_loopw [4] (fun i wr => ∃ j : Nat, j ≤ n ∧ i = .int .i64 j ∧ Hid (LaidO wr w.heap.size os j) ∧ Hid (∀ k, k < n * 8 → (∃ x, wr.cell? ⟨w.heap.size, k, none⟩ = some x) ∧ wr.frozen? ⟨w.heap.size, k, none⟩ = false) ∧ w.heap.size < wr.heap.size ∧ Below w.heap.size w wr) (fun i _ => n - (intOf i).toNat)
  case atStart => exact ⟨0, by omega, rfl, (fun i hi hij => by omega), HC0, hlt0, B0⟩
  case round =>
    obtain ⟨j, hj, rfl, HL, HC, hgl, hb⟩ := hrel
    by_cases hlt : j < n
    · have hj2 : j < os.length := by have := Hn.out; omega
      obtain ⟨g, off, f, fc, rfl, hg, hc, hr⟩ := (rdO_later HA.out hb) j hj2
      have hzl := HZ.out os[j] (List.getElem_mem hj2)
      obtain ⟨o, ho⟩ : ∃ o, os[j] = o := ⟨_, rfl⟩
      have Ho : Hid (os[j] = o) := ho
      rw [ho] at hc hr hzl
      clear ho
      obtain ⟨c0, c1, c2, c3, c4, c5, c6, c7⟩ := hc
      go_wp2_with fail
      refine (toObj_calls wr o f fc hr hzl).mono ?_
      rintro e w1 ⟨v, rfl, O1, b1⟩
      obtain ⟨va, vc, rfl, -⟩ := ownI_read O1
      have B1 := hb.trans (b1.mono hb.size)
      have HX : Hid (∀ k, k < n * 8 → (∃ x, w1.cell? ⟨w.heap.size, k, none⟩ = some x) ∧ w1.frozen? ⟨w.heap.size, k, none⟩ = false) := by
        intro k hk
        obtain ⟨⟨x, hx⟩, hfz⟩ := HC.out k hk
        exact ⟨⟨x, (b1.cell (p := ⟨w.heap.size, k, none⟩) hgl).trans hx⟩, (b1.frozen (p := ⟨w.heap.size, k, none⟩) hgl).trans hfz⟩
      have HL1 : Hid (LaidO w1 w.heap.size os j) := laidO_later HL.out b1 hgl
      have HO1 : Hid (ownI w1 (w.heap.size + 1) (.slice va o.field.length vc) o.field) := ownI_mono O1 (by omega)
      obtain ⟨⟨x0, e0⟩, f0⟩ := HX.out (j * 8) (by omega)
      obtain ⟨⟨x1, e1⟩, f1⟩ := HX.out (j * 8 + 1) (by omega)
      obtain ⟨⟨x2, e2⟩, f2⟩ := HX.out (j * 8 + 2) (by omega)
      obtain ⟨⟨x3, e3⟩, f3⟩ := HX.out (j * 8 + 3) (by omega)
      obtain ⟨⟨x4, e4⟩, f4⟩ := HX.out (j * 8 + 4) (by omega)
      obtain ⟨⟨x5, e5⟩, f5⟩ := HX.out (j * 8 + 5) (by omega)
      obtain ⟨⟨x6, e6⟩, f6⟩ := HX.out (j * 8 + 6) (by omega)
      obtain ⟨⟨x7, e7⟩, f7⟩ := HX.out (j * 8 + 7) (by omega)
      have hgl1 : w.heap.size < w1.heap.size := Nat.lt_of_lt_of_le hgl b1.size
      have HS1 : Hid (LaidO (setObj w1 w.heap.size (j * 8) o (.slice va o.field.length vc)) w.heap.size os (j + 1)) := by
        have h := laidO_set (f := .slice va o.field.length vc) HL1.out hj2 (fun k hk => (HX.out (j * 8 + k) (by omega)).1) (by rw [Ho.out]; exact HO1.out) (fun k hk => (HX.out (j * 8 + k) (by omega)).2)
        rw [Ho.out] at h
        exact h
      have HS2 : Hid (∀ k, k < n * 8 → (∃ x, (setObj w1 w.heap.size (j * 8) o (.slice va o.field.length vc)).cell? ⟨w.heap.size, k, none⟩ = some x) ∧ (setObj w1 w.heap.size (j * 8) o (.slice va o.field.length vc)).frozen? ⟨w.heap.size, k, none⟩ = false) :=
        fun k hk => ⟨some_setObj _ _ _ _ _ _ (HX.out k hk).1, by rw [setObj_frozen]; exact (HX.out k hk).2⟩
      have HS3 : Hid (w.heap.size < (setObj w1 w.heap.size (j * 8) o (.slice va o.field.length vc)).heap.size) := by show _ < _; rw [setObj_size]; exact hgl1
      have HS4 : Hid (Below w.heap.size w (setObj w1 w.heap.size (j * 8) o (.slice va o.field.length vc))) := setObj_below _ _ _ _ B1 (Nat.le_refl _)
      clear O1 c0 c1 c2 c3 c4 c5 c6 c7 hr
      unfold objV
      go_wp2
      go_roundw
      case rel => exact ⟨j + 1, by omega, by go_num, HS1, HS2, HS3.out, HS4.out⟩
      case measure => simp [intOf]; omega
    · obtain rfl : j = n := by omega
      go_wp2
      go_ret
      exact ⟨rfl, HL.out, hgl, hb⟩

theorem eqObjS_calls (w : World) (a b : Option Addr) (cap cap2 : Nat) (os : List ObjD) (h1 : RdO w a os) (h2 : RdO w b os) (hn : os.length ≤ 16777216) (hz : ∀ z ∈ os, z.field.length ≤ 16777216) :
    Calls Try.prog 51 #[.slice a os.length cap, .slice b os.length cap2] w fun e w' => e = .returned (.bool true) ∧ Below w.heap.size w w' := by
  have HA : Hid (RdO w a os) := h1
  have HB : Hid (RdO w b os) := h2
  have HZ : Hid (∀ z ∈ os, z.field.length ≤ 16777216) := hz
  obtain ⟨n, hnn⟩ : ∃ n, os.length = n := ⟨_, rfl⟩
  have Hn : Hid (os.length = n) := hnn
  rw [hnn] at hn ⊢
  clear h1 h2 hz hnn
  go_enter Try.func51, Try.ntmps51
  go_wp2
  go_loopw [5] (fun i wr => ∃ j : Nat, j ≤ n ∧ i = .int .i64 j ∧ Below w.heap.size w wr) (fun i _ => n - (intOf i).toNat)
  case atStart => exact ⟨0, by omega, rfl, Below.refl _ _⟩
  case round =>
    obtain ⟨j, hj, rfl, hb⟩ := hrel
    by_cases hlt : j < n
    · have hj2 : j < os.length := by have := Hn.out; omega
      obtain ⟨g, off, f, fc, rfl, -, hc, hr⟩ := (rdO_later HA.out hb) j hj2
      obtain ⟨g2, off2, f2, fc2, rfl, -, hc2, hr2⟩ := (rdO_later HB.out hb) j hj2
      have hzl := HZ.out os[j] (List.getElem_mem hj2)
      generalize os[j] = o at *
      have HE : Hid (∀ X, Below wr.heap.size wr X → _) := fun X hX => eqObj_calls X o f f2 fc fc2 (rdI_later hr hX) (rdI_later hr2 hX) hzl
      unfold objV at HE
      obtain ⟨c0, c1, c2, c3, c4, c5, c6, c7⟩ := hc
      obtain ⟨d0, d1, d2, d3, d4, d5, d6, d7⟩ := hc2
      have HD : Hid (Below wr.heap.size wr wr.drew) := (Below.refl _ _).drew
      go_wp2_with fail
      go_region_with (go_at_call 96; refine (HE.out _ HD.out).mono ?_; rintro e w1 ⟨rfl, b1⟩)
      all_goals
        have B1 : Below w.heap.size w w1 := hb.drew.trans (b1.mono hb.size)
        go_wp2
        go_roundw
        case rel => exact ⟨j + 1, by omega, by go_num, B1⟩
        case measure => simp [intOf]; omega
    · go_wp2
      go_ret
      exact ⟨rfl, hb⟩

end Go.Proofs.Ytjhceoejblmihaa
