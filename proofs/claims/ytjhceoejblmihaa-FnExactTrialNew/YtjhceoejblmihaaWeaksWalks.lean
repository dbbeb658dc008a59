/- Weak handles as the laws have them: what szWeakS, toWeak, toWeakS, eqWeak and eqWeakS do. -/
import Derived.Test.YtjhceoejblmihaaObjs2Walks
namespace Go.Proofs.Ytjhceoejblmihaa
open Go.RowKit
set_option linter.unusedVariables false

structure WeakD where
  used : Bool
  target : Int
def weakV (d : WeakD) : Value := .agg #[.bool d.used, .int .i64 d.target]

theorem toWeak_calls (w : World) (d : WeakD) :
    Calls Try.prog 95 #[weakV d] w fun e w' => e = .returned (weakV d) ∧ Below w.heap.size w w' := by
  obtain ⟨u, t⟩ := d
  unfold weakV
  simp only
  go_enter Try.func95, Try.ntmps95
  go_wp2
  refine bodyPost_ret (v := .agg #[.bool u, .int .i64 t]) (by simp [results, Try.results95, go_sem, *]) rfl ⟨rfl, ?_⟩
  exact (((Below.refl _ _).alloc (Nat.le_refl _) _).alloc (by simp) _).alloc (by simp; omega) _

theorem eqWeak_calls (w : World) (d : WeakD) :
    Calls Try.prog 97 #[weakV d, weakV d] w fun e w' => e = .returned (.bool true) ∧ Below w.heap.size w w' := by
  obtain ⟨u, t⟩ := d
  unfold weakV
  simp only
  go_enter Try.func97, Try.ntmps97
  go_wp2
  go_ret
  exact ⟨rfl, ((Below.refl _ _).alloc (Nat.le_refl _) _).alloc (by simp) _⟩

theorem szWeakS_calls (w : World) (a : Option Addr) (cap n : Nat) (left : Int) (hn : n ≤ 9223372036854775807) (h0 : 0 ≤ left) (h1 : left ≤ 1048576) :
    Calls Try.prog 44 #[.slice a n cap, .int .i64 left] w fun e w' => e = .returned (.int .i64 (if left - (n : Int) < 0 then -1 else left - (n : Int))) ∧ w' = w := by
  by_cases hl : left - (n : Int) < 0
  · rw [if_pos hl]
    go_enter Try.func44, Try.ntmps44
    go_wp2
    go_ret
    exact ⟨rfl, rfl⟩
  · rw [if_neg hl]
    have hl2 : (n : Int) ≤ left := by omega
    clear hl
    go_enter Try.func44, Try.ntmps44
    go_wp2
    go_ret
    exact ⟨rfl, rfl⟩

/-- A weak handle lies at place p of block g. -/
structure WeakAt (w : World) (g p : Nat) (d : WeakD) : Prop where
  c0 : w.cell? ⟨g, p, none⟩ = some (.bool d.used)
  c1 : w.cell? ⟨g, p + 1, none⟩ = some (.int .i64 d.target)
theorem WeakAt.keep {w w' : World} {g p : Nat} {d : WeakD} (h : WeakAt w g p d) (hk : ∀ k, w'.cell? ⟨g, k, none⟩ = w.cell? ⟨g, k, none⟩) : WeakAt w' g p d :=
  ⟨(hk _).trans h.c0, (hk _).trans h.c1⟩
def RdW (w : World) (a : Option Addr) (ds : List WeakD) : Prop := ∀ j (h : j < ds.length), ∃ g off, a = some ⟨g, off, none⟩ ∧ g < w.heap.size ∧ WeakAt w g (off + j * 2) ds[j]
theorem rdW_later {w w' : World} {a : Option Addr} {ds : List WeakD} (h : RdW w a ds) (hb : Below w.heap.size w w') : RdW w' a ds := by
  intro j hj
  obtain ⟨g, off, ha, hg, hc⟩ := h j hj
  exact ⟨g, off, ha, Nat.lt_of_lt_of_le hg hb.size, hc.keep (fun k => hb.cell (p := ⟨g, k, none⟩) hg)⟩

theorem infoW : (Try.prog.info? 98).map (fun i => (i.zero, i.size, i.bytes)) = some (some (.agg #[.bool false, .int .i64 0]), 2, 16) := by kernel_rfl
theorem make_weaks (n : Nat) (hn : n ≤ 1677721) (u : World) : ∃ u', (Instr.makeSlice 33 (.int .i64 (n : Int)) (.int .i64 (n : Int))).run Try.prog u = .ok (.slice (some ⟨u.heap.size, 0, none⟩) n n) u' ∧
    (∀ k, k < n * 2 → (∃ x, u'.cell? ⟨u.heap.size, k, none⟩ = some x) ∧ u'.frozen? ⟨u.heap.size, k, none⟩ = false) ∧ Below u.heap.size u u' ∧ u.heap.size < u'.heap.size := by
  obtain ⟨i0, hi, hz0, hz1, hz2⟩ := info_parts infoW
  obtain ⟨u', h1, h2, h3⟩ := run_make_full (P := Try.prog) u u.heap.size 33 98 i0 _ 2 Try.underlying33 hi hz0 hz1 .i64 .i64 n (by rw [hz2]; omega) (by unfold maxLen; omega) (Nat.le_refl _)
  refine ⟨u', h1, ?_, (Below.refl _ _).grown h3 (Nat.le_refl _) (fun r hr => by cases hr), ?_⟩
  · intro k hk
    refine ⟨?_, World.ownsRow.frozenAt h2 k⟩
    rw [World.ownsRow.cellAt h2 k hk]
    have hl : k < (madeCells (Value.agg #[.bool false, .int .i64 0]).cells (n * 2)).toList.length := by
      rw [Array.length_toList, size_madeCells]; exact hk
    exact ⟨_, List.getElem?_eq_getElem hl⟩
  · exact (World.ownsRow.lt h2 u.heap.size rfl).2

def setWeak (w : World) (g p : Nat) (d : WeakD) : World := (w.setCell ⟨g, p, none⟩ (.bool d.used)).setCell ⟨g, p + 1, none⟩ (.int .i64 d.target)
theorem setWeak_other (w : World) (g p q : Nat) (d : WeakD) (h : q < p ∨ p + 2 ≤ q) : (setWeak w g p d).cell? ⟨g, q, none⟩ = w.cell? ⟨g, q, none⟩ := by
  unfold setWeak
  rw [cell_far _ _ _ _ _ (by omega), cell_far _ _ _ _ _ (by omega)]
theorem setWeak_at (w : World) (g p : Nat) (d : WeakD) (h : ∀ k, k < 2 → ∃ u, w.cell? ⟨g, p + k, none⟩ = some u) : WeakAt (setWeak w g p d) g p d := by
  have same : ∀ (X : World) (q : Nat) (u v : Value), X.cell? ⟨g, q, none⟩ = some v → (X.setCell ⟨g, q, none⟩ u).cell? ⟨g, q, none⟩ = some u := fun X q u v hX => World.cell?_setCell_same X _ u hX
  obtain ⟨u0, h0⟩ := h 0 (by omega)
  obtain ⟨u1, h1⟩ := h 1 (by omega)
  rw [Nat.add_zero] at h0
  unfold setWeak
  constructor
  · rw [cell_far _ _ _ _ _ (by omega)]
    exact same _ _ _ _ h0
  · exact same _ _ _ _ (by rw [cell_far _ _ _ _ _ (by omega)]; exact h1)

/-- The first j weak handles of a row lie in block g. -/
def LaidW (w : World) (g : Nat) (ds : List WeakD) (j : Nat) : Prop := ∀ i (h : i < ds.length), i < j → WeakAt w g (i * 2) ds[i] ∧ ∀ k, k < 2 → w.frozen? ⟨g, i * 2 + k, none⟩ = false
theorem laidW_rd {w : World} {g : Nat} {ds : List WeakD} (h : LaidW w g ds ds.length) (hg : g < w.heap.size) : RdW w (some ⟨g, 0, none⟩) ds :=
  fun j hj => ⟨g, 0, rfl, hg, by rw [Nat.zero_add]; exact (h j hj hj).1⟩
theorem laidW_later {w w' : World} {g j : Nat} {ds : List WeakD} (h : LaidW w g ds j) (hb : Below w.heap.size w w') (hg : g < w.heap.size) : LaidW w' g ds j :=
  fun i hi hij => ⟨(h i hi hij).1.keep (fun k => hb.cell (p := ⟨g, k, none⟩) hg), fun k hk => (hb.frozen (p := ⟨g, i * 2 + k, none⟩) hg).trans ((h i hi hij).2 k hk)⟩
theorem laidW_set {w : World} {g j : Nat} {ds : List WeakD} (h : LaidW w g ds j) (hj : j < ds.length) (hc : ∀ k, k < 2 → ∃ u, w.cell? ⟨g, j * 2 + k, none⟩ = some u) (hf : ∀ k, k < 2 → w.frozen? ⟨g, j * 2 + k, none⟩ = false) : LaidW (setWeak w g (j * 2) ds[j]) g ds (j + 1) := by
  intro i hi hij
  by_cases he : i = j
  · subst he
    exact ⟨setWeak_at w g (i * 2) ds[i] hc, fun k hk => by unfold setWeak; rw [World.frozen?_setCell, World.frozen?_setCell]; exact hf k hk⟩
  · have h1 := (h i hi (by omega)).1
    exact ⟨⟨by rw [setWeak_other _ _ _ _ _ (by omega)]; exact h1.c0, by rw [setWeak_other _ _ _ _ _ (by omega)]; exact h1.c1⟩, fun k hk => by unfold setWeak; rw [World.frozen?_setCell, World.frozen?_setCell]; exact (h i hi (by omega)).2 k hk⟩

theorem toWeakS_calls (w : World) (a : Option Addr) (cap : Nat) (ds : List WeakD) (h : RdW w a ds) (hn : ds.length ≤ 1677721) :
    Calls Try.prog 48 #[.slice a ds.length cap] w fun e w' => e = .returned (.slice (some ⟨w.heap.size, 0, none⟩) ds.length ds.length) ∧ LaidW w' w.heap.size ds ds.length ∧ w.heap.size < w'.heap.size ∧ Below w.heap.size w w' := by
  have HA : Hid (RdW w a ds) := h
  obtain ⟨u, hmk, hc0, B0, hlt0⟩ := make_weaks ds.length hn w
  have HC0 : Hid (∀ k, k < ds.length * 2 → (∃ x, u.cell? ⟨w.heap.size, k, none⟩ = some x) ∧ u.frozen? ⟨w.heap.size, k, none⟩ = false) := hc0
  obtain ⟨n, hnn⟩ : ∃ n, ds.length = n := ⟨_, rfl⟩
  have Hn : Hid (ds.length = n) := hnn
  rw [hnn] at hn hmk HC0 ⊢
  clear h hc0 hnn
  go_enter Try.func48, Try.ntmps48
  go_wp2
  go_loopw [4] (fun i wr => ∃ j : Nat, j ≤ n ∧ i = .int .i64 j ∧ Hid (LaidW wr w.heap.size ds j) ∧ Hid (∀ k, k < n * 2 → (∃ x, wr.cell? ⟨w.heap.size, k, none⟩ = some x) ∧ wr.frozen? ⟨w.heap.size, k, none⟩ = false) ∧ w.heap.size < wr.heap.size ∧ Below w.heap.size w wr) (fun i _ => n - (intOf i).toNat)
  case atStart => exact ⟨0, by omega, rfl, (fun i hi hij => by omega), HC0, hlt0, B0⟩
  case round =>
    obtain ⟨j, hj, rfl, HL, HC, hgl, hb⟩ := hrel
    by_cases hlt : j < n
    · have hj2 : j < ds.length := by have := Hn.out; omega
      obtain ⟨g, off, rfl, hg, hc⟩ := (rdW_later HA.out hb) j hj2
      obtain ⟨d, hd⟩ : ∃ d, ds[j] = d := ⟨_, rfl⟩
      have Hd : Hid (ds[j] = d) := hd
      rw [hd] at hc
      clear hd
      obtain ⟨c0, c1⟩ := hc
      go_wp2_with fail
      refine (toWeak_calls wr d).mono ?_
      rintro e w1 ⟨rfl, b1⟩
      have B1 := hb.trans (b1.mono hb.size)
      have HX : Hid (∀ k, k < n * 2 → (∃ x, w1.cell? ⟨w.heap.size, k, none⟩ = some x) ∧ w1.frozen? ⟨w.heap.size, k, none⟩ = false) := by
        intro k hk
        obtain ⟨⟨x, hx⟩, hfz⟩ := HC.out k hk
        exact ⟨⟨x, (b1.cell (p := ⟨w.heap.size, k, none⟩) hgl).trans hx⟩, (b1.frozen (p := ⟨w.heap.size, k, none⟩) hgl).trans hfz⟩
      have HL1 : Hid (LaidW w1 w.heap.size ds j) := laidW_later HL.out b1 hgl
      obtain ⟨⟨x0, e0⟩, f0⟩ := HX.out (j * 2) (by omega)
      obtain ⟨⟨x1, e1⟩, f1⟩ := HX.out (j * 2 + 1) (by omega)
      have hgl1 : w.heap.size < w1.heap.size := Nat.lt_of_lt_of_le hgl b1.size
      have HS1 : Hid (LaidW (setWeak w1 w.heap.size (j * 2) d) w.heap.size ds (j + 1)) := by
        have h := laidW_set HL1.out hj2 (fun k hk => (HX.out (j * 2 + k) (by omega)).1) (fun k hk => (HX.out (j * 2 + k) (by omega)).2)
        rw [Hd.out] at h
        exact h
      have HS2 : Hid (∀ k, k < n * 2 → (∃ x, (setWeak w1 w.heap.size (j * 2) d).cell? ⟨w.heap.size, k, none⟩ = some x) ∧ (setWeak w1 w.heap.size (j * 2) d).frozen? ⟨w.heap.size, k, none⟩ = false) :=
        fun k hk => ⟨some_set _ _ _ _ (some_set _ _ _ _ (HX.out k hk).1), by unfold setWeak; rw [World.frozen?_setCell, World.frozen?_setCell]; exact (HX.out k hk).2⟩
      have HS3 : Hid (w.heap.size < (setWeak w1 w.heap.size (j * 2) d).heap.size) := by show _ < _; unfold setWeak; simp [World.setCell]; exact hgl1
      have HS4 : Hid (Below w.heap.size w (setWeak w1 w.heap.size (j * 2) d)) := (B1.setCell (p := ⟨w.heap.size, j * 2, none⟩) (Nat.le_refl _) _).setCell (p := ⟨w.heap.size, j * 2 + 1, none⟩) (Nat.le_refl _) _
      clear c0 c1
      unfold weakV
      go_wp2
      go_roundw
      case rel => exact ⟨j + 1, by omega, by go_num, HS1, HS2, HS3.out, HS4.out⟩
      case measure => simp [intOf]; omega
    · obtain rfl : j = n := by omega
      go_wp2
      go_ret
      exact ⟨rfl, HL.out, hgl, hb⟩

theorem eqWeakS_calls (w : World) (a b : Option Addr) (cap cap2 : Nat) (ds : List WeakD) (h1 : RdW w a ds) (h2 : RdW w b ds) (hn : ds.length ≤ 16777216) :
    Calls Try.prog 52 #[.slice a ds.length cap, .slice b ds.length cap2] w fun e w' => e = .returned (.bool true) ∧ Below w.heap.size w w' := by
  have HA : Hid (RdW w a ds) := h1
  have HB : Hid (RdW w b ds) := h2
  obtain ⟨n, hnn⟩ : ∃ n, ds.length = n := ⟨_, rfl⟩
  have Hn : Hid (ds.length = n) := hnn
  rw [hnn] at hn ⊢
  clear h1 h2 hnn
  go_enter Try.func52, Try.ntmps52
  go_wp2
  go_loopw [5] (fun i wr => ∃ j : Nat, j ≤ n ∧ i = .int .i64 j ∧ Below w.heap.size w wr) (fun i _ => n - (intOf i).toNat)
  case atStart => exact ⟨0, by omega, rfl, Below.refl _ _⟩
  case round =>
    obtain ⟨j, hj, rfl, hb⟩ := hrel
    by_cases hlt : j < n
    · have hj2 : j < ds.length := by have := Hn.out; omega
      obtain ⟨g, off, rfl, -, hc⟩ := (rdW_later HA.out hb) j hj2
      obtain ⟨g2, off2, rfl, -, hc2⟩ := (rdW_later HB.out hb) j hj2
      generalize ds[j] = d at *
      have HE : Hid (∀ X, _) := fun X => eqWeak_calls X d
      unfold weakV at HE
      obtain ⟨c0, c1⟩ := hc
      obtain ⟨d0, d1⟩ := hc2
      go_wp2_with fail
      go_region_with (go_at_call 97; refine (HE.out _).mono ?_; rintro e w1 ⟨rfl, b1⟩)
      all_goals
        have B1 : Below w.heap.size w w1 := hb.drew.trans (b1.mono hb.size)
        go_wp2
        go_roundw
        case rel => exact ⟨j + 1, by omega, by go_num, B1⟩
        case measure => simp [intOf]; omega
    · go_wp2
      go_ret
      exact ⟨rfl, hb⟩

end Go.Proofs.Ytjhceoejblmihaa
