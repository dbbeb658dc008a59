/- What impl.IdOf and impl.cellsOf answer. -/
import Derived.Test.YtjhdnachbahbmaaSHeapWalks
namespace Go.Proofs.Ytjhdnachbahbmaa
open Go.RowKit
set_option linter.unusedVariables false

/-- The value of 'cells': what stands in slot k of n, for each k below 8. -/
def cellA (g off n k : Nat) : Option Addr := if k < n then some ⟨g, off + k * 8, none⟩ else none
abbrev cellP (g off n k : Nat) : Value := .pointer (cellA g off n k)
def cellsV (g off n : Nat) : Value := .agg #[cellP g off n 0, cellP g off n 1, cellP g off n 2, cellP g off n 3, cellP g off n 4, cellP g off n 5, cellP g off n 6, cellP g off n 7]

/-- cellsOf's three blocks: what came in, the result, and the one that is filled, of which j are. -/
structure CI0 (w : World) (s : Nat) (x : Value) (g off j : Nat) : Prop where
  at_ : ∀ k, k < 8 → w.cell? ⟨s, 0, none⟩ = some x ∧ w.cell? ⟨s + 1, k, none⟩ = some (.pointer none) ∧ w.frozen? ⟨s + 1, k, none⟩ = false ∧ w.cell? ⟨s + 1 + 1, k, none⟩ = some (cellP g off j k) ∧ w.frozen? ⟨s + 1 + 1, k, none⟩ = false ∧ s + 1 + 1 < w.heap.size
theorem CI0.set {w : World} {s g off j : Nat} {x : Value} (h : CI0 w s x g off j) (hj : j < 8) : CI0 (w.setCell ⟨s + 1 + 1, j, none⟩ (.pointer (some ⟨g, off + j * 8, none⟩))) s x g off (j + 1) := by
  refine ⟨fun k hk => ?_⟩
  obtain ⟨h1, h2, h3, h4, h5, h6⟩ := h.at_ k hk
  refine ⟨?_, ?_, by rw [World.frozen?_setCell]; exact h3, ?_, by rw [World.frozen?_setCell]; exact h5, by simpa [World.setCell] using h6⟩
  · rw [keep_far _ _ (by show s + 1 + 1 ≠ s; omega)]; exact h1
  · rw [keep_far _ _ (by show s + 1 + 1 ≠ s + 1; omega)]; exact h2
  · by_cases e : j = k
    · subst e
      rw [World.cell?_setCell_same w _ _ h4]
      unfold cellP cellA
      rw [if_pos (by omega)]
    · rw [cell_far _ _ _ _ _ e, h4]
      unfold cellP cellA
      by_cases h2 : k < j
      · rw [if_pos h2, if_pos (by omega)]
      · rw [if_neg h2, if_neg (by omega)]
theorem nil8 (k : Nat) (hk : k < 8) : (#[Value.pointer none, .pointer none, .pointer none, .pointer none, .pointer none, .pointer none, .pointer none, .pointer none] : Array Value)[k]? = some (.pointer none) := by
  match k, hk with
  | 0, _ | 1, _ | 2, _ | 3, _ | 4, _ | 5, _ | 6, _ | 7, _ => rfl
theorem ci_new (w : World) (x x1 x2 x3 : Value) (g off : Nat) : CI0 (((w.alloc (.cells #[x, x1, x2, x3] 33)).alloc (.cells #[.pointer none, .pointer none, .pointer none, .pointer none, .pointer none, .pointer none, .pointer none, .pointer none] 47)).alloc (.cells #[.pointer none, .pointer none, .pointer none, .pointer none, .pointer none, .pointer none, .pointer none, .pointer none] 47)) w.heap.size x g off 0 := by
  obtain ⟨A, hA⟩ : ∃ A, A = w.alloc (.cells #[x, x1, x2, x3] 33) := ⟨_, rfl⟩
  rw [← hA]
  have hs : A.heap.size = w.heap.size + 1 := by rw [hA]; simp
  obtain ⟨B, hB⟩ : ∃ B, B = A.alloc (.cells #[.pointer none, .pointer none, .pointer none, .pointer none, .pointer none, .pointer none, .pointer none, .pointer none] 47) := ⟨_, rfl⟩
  rw [← hB]
  have hs2 : B.heap.size = w.heap.size + 1 + 1 := by rw [hB]; simp [hs]
  refine ⟨fun k hk => ⟨?_, ?_, ?_, ?_, ?_, ?_⟩⟩
  · rw [World.cell?_alloc_lt _ _ _ (by show w.heap.size < _; omega), hB, World.cell?_alloc_lt _ _ _ (by show w.heap.size < _; omega), hA, World.cell?_alloc_mark]; rfl
  · rw [World.cell?_alloc_lt _ _ _ (by show w.heap.size + 1 < _; omega), hB, ← hs, World.cell?_alloc_mark]; exact nil8 k hk
  · have e := ((Below.refl B.heap.size B).alloc (Nat.le_refl _) (.cells #[.pointer none, .pointer none, .pointer none, .pointer none, .pointer none, .pointer none, .pointer none, .pointer none] 47)).frozen (p := ⟨w.heap.size + 1, k, none⟩) (by show w.heap.size + 1 < _; omega)
    rw [e, hB, ← hs, World.frozen?_alloc_mark]; simp
  · rw [← hs2, World.cell?_alloc_mark]; unfold cellP cellA; rw [if_neg (by omega)]; exact nil8 k hk
  · rw [← hs2, World.frozen?_alloc_mark]; simp
  · simp [hs2]
theorem cellA_eight (g off n k : Nat) (h : 8 ≤ n) (hk : k < 8) : cellA g off n k = cellA g off 8 k := by
  unfold cellA; rw [if_pos (by omega), if_pos (by omega)]
theorem cellsV_eight (g off n : Nat) (h : 8 ≤ n) : cellsV g off n = cellsV g off 8 := by
  unfold cellsV cellP
  simp only [cellA_eight g off n _ h (by decide : 0 < 8), cellA_eight g off n _ h (by decide : 1 < 8), cellA_eight g off n _ h (by decide : 2 < 8), cellA_eight g off n _ h (by decide : 3 < 8), cellA_eight g off n _ h (by decide : 4 < 8), cellA_eight g off n _ h (by decide : 5 < 8), cellA_eight g off n _ h (by decide : 6 < 8), cellA_eight g off n _ h (by decide : 7 < 8)]

theorem cellsOf_calls (w : World) (ao : Option Addr) (n co : Nat) (x1 x2 x3 : Value) (hn : n ≤ 1048576) (g off : Nat) (ha : 0 < n → ao = some ⟨g, off, none⟩) (hx : ∃ a1 n1 c1 a2 n2 c2 a3 n3 c3, x1 = .slice a1 n1 c1 ∧ x2 = .slice a2 n2 c2 ∧ x3 = .slice a3 n3 c3) :
    Calls Try.prog 12 #[.agg #[.slice ao n co, x1, x2, x3]] w fun e w' => e = .returned (cellsV g off n) ∧ Below w.heap.size w w' := by
  obtain ⟨a1, n1, c1, a2, n2, c2, a3, n3, c3, rfl, rfl, rfl⟩ := hx
  have HA : Hid (0 < n → ao = some ⟨g, off, none⟩) := ha
  clear ha
  obtain ⟨W, hW⟩ : ∃ W, W = ((w.alloc (.cells #[.slice ao n co, .slice a1 n1 c1, .slice a2 n2 c2, .slice a3 n3 c3] 33)).alloc (.cells #[.pointer none, .pointer none, .pointer none, .pointer none, .pointer none, .pointer none, .pointer none, .pointer none] 47)).alloc (.cells #[.pointer none, .pointer none, .pointer none, .pointer none, .pointer none, .pointer none, .pointer none, .pointer none] 47) := ⟨_, rfl⟩
  have BW : Below w.heap.size w W := by
    rw [hW]
    exact (((Below.refl _ _).alloc (Nat.le_refl _) _).alloc (by simp) _).alloc (by simp; omega) _
  have HI : Hid (CI0 W w.heap.size (.slice ao n co) g off 0) := by
    rw [hW]; exact ci_new w _ _ _ _ g off
  by_cases hn8 : n ≤ 8
  · go_enter Try.func12, Try.ntmps12
    go_wp2
    rw [← hW]
    clear hW
    go_loopw [9] (fun i wr => ∃ j : Nat, j ≤ n ∧ i = .int .i64 j ∧ Hid (CI0 wr w.heap.size (.slice ao n co) g off j) ∧ Below w.heap.size w wr) (fun i _ => n - (intOf i).toNat)
    case atStart => exact ⟨0, by omega, rfl, HI, BW⟩
    case round =>
      obtain ⟨j, hj, rfl, HJ, hb⟩ := hrel
      by_cases hlt : j < n
      · obtain rfl := HA.out (by omega)
        obtain ⟨h0, -, -, h1, h2, -⟩ := HJ.out.at_ j (by omega)
        have HN : Hid (CI0 (wr.setCell ⟨w.heap.size + 1 + 1, j, none⟩ (.pointer (some ⟨g, off + j * 8, none⟩))) w.heap.size (.slice (some ⟨g, off, none⟩) n co) g off (j + 1)) := HJ.out.set (by omega)
        go_wp2
        go_roundw
        case rel => exact ⟨j + 1, by omega, by go_num, HN, Below.setCell hb (by simp only; omega) _⟩
        case measure => simp [intOf]; omega
      · obtain rfl : j = n := by omega
        obtain ⟨-, r0, e0, o0, -, hs⟩ := HJ.out.at_ 0 (by omega)
        obtain ⟨-, r1, e1, o1, -, -⟩ := HJ.out.at_ 1 (by omega)
        obtain ⟨-, r2, e2, o2, -, -⟩ := HJ.out.at_ 2 (by omega)
        obtain ⟨-, r3, e3, o3, -, -⟩ := HJ.out.at_ 3 (by omega)
        obtain ⟨-, r4, e4, o4, -, -⟩ := HJ.out.at_ 4 (by omega)
        obtain ⟨-, r5, e5, o5, -, -⟩ := HJ.out.at_ 5 (by omega)
        obtain ⟨-, r6, e6, o6, -, -⟩ := HJ.out.at_ 6 (by omega)
        obtain ⟨-, r7, e7, o7, -, -⟩ := HJ.out.at_ 7 (by omega)
        go_wp2
        refine bodyPost_ret (v := .agg #[.pointer (cellA g off j 0), .pointer (cellA g off j 1), .pointer (cellA g off j 2), .pointer (cellA g off j 3), .pointer (cellA g off j 4), .pointer (cellA g off j 5), .pointer (cellA g off j 6), .pointer (cellA g off j 7)]) (by simp [results, Try.results12, go_sem, *]) rfl ⟨rfl, ?_⟩
        iterate 8 refine Below.setCell ?_ (by simp only; omega) _
        exact hb
  · go_enter Try.func12, Try.ntmps12
    go_wp2
    rw [← hW]
    clear hW
    go_loopw [9] (fun i wr => ∃ j : Nat, j ≤ 8 ∧ i = .int .i64 j ∧ Hid (CI0 wr w.heap.size (.slice ao n co) g off j) ∧ Below w.heap.size w wr) (fun i _ => 8 - (intOf i).toNat)
    case atStart => exact ⟨0, by omega, rfl, HI, BW⟩
    case round =>
      obtain ⟨j, hj, rfl, HJ, hb⟩ := hrel
      by_cases hlt : j < 8
      · obtain rfl := HA.out (by omega)
        obtain ⟨h0, -, -, h1, h2, -⟩ := HJ.out.at_ j (by omega)
        have HN : Hid (CI0 (wr.setCell ⟨w.heap.size + 1 + 1, j, none⟩ (.pointer (some ⟨g, off + j * 8, none⟩))) w.heap.size (.slice (some ⟨g, off, none⟩) n co) g off (j + 1)) := HJ.out.set (by omega)
        go_wp2
        go_roundw
        case rel => exact ⟨j + 1, by omega, by go_num, HN, Below.setCell hb (by simp only; omega) _⟩
        case measure => simp [intOf]; omega
      · obtain rfl : j = 8 := by omega
        have hn9 : 8 < n := by omega
        have HV : Hid (cellsV g off n = cellsV g off 8) := cellsV_eight g off n (by omega)
        obtain ⟨-, r0, e0, o0, -, hs⟩ := HJ.out.at_ 0 (by omega)
        obtain ⟨-, r1, e1, o1, -, -⟩ := HJ.out.at_ 1 (by omega)
        obtain ⟨-, r2, e2, o2, -, -⟩ := HJ.out.at_ 2 (by omega)
        obtain ⟨-, r3, e3, o3, -, -⟩ := HJ.out.at_ 3 (by omega)
        obtain ⟨-, r4, e4, o4, -, -⟩ := HJ.out.at_ 4 (by omega)
        obtain ⟨-, r5, e5, o5, -, -⟩ := HJ.out.at_ 5 (by omega)
        obtain ⟨-, r6, e6, o6, -, -⟩ := HJ.out.at_ 6 (by omega)
        obtain ⟨-, r7, e7, o7, -, -⟩ := HJ.out.at_ 7 (by omega)
        go_wp2
        refine bodyPost_ret (v := .agg #[.pointer (cellA g off 8 0), .pointer (cellA g off 8 1), .pointer (cellA g off 8 2), .pointer (cellA g off 8 3), .pointer (cellA g off 8 4), .pointer (cellA g off 8 5), .pointer (cellA g off 8 6), .pointer (cellA g off 8 7)]) (by simp [results, Try.results12, go_sem, *]) rfl ⟨by rw [HV.out]; rfl, ?_⟩
        iterate 8 refine Below.setCell ?_ (by simp only; omega) _
        exact hb

theorem iIdOf_calls (slot gen : Int) (w : World) :
    Calls Try.prog 42 #[.int .i64 slot, .int .i64 gen] w fun e w' => e = .returned (.int .i64 (idZ slot gen)) ∧ w' = w := by
  by_cases h : 0 ≤ slot ∧ slot ≤ 7 ∧ 1 ≤ gen ∧ gen ≤ 999
  · have HE : Hid (idZ slot gen = slot + 8 * gen) := by show _ = _; unfold idZ; rw [if_pos h]
    obtain ⟨g1, g2, g3, g4⟩ := h
    go_enter Try.func42, Try.ntmps42
    go_wp2
    go_ret
    exact ⟨ret_zz HE.out.symm, rfl⟩
  · have HE : Hid (idZ slot gen = -1) := by show _ = _; unfold idZ; rw [if_neg h]
    by_cases g1 : slot < 0
    · clear h
      go_enter Try.func42, Try.ntmps42
      go_wp2
      go_ret
      exact ⟨ret_zz HE.out.symm, rfl⟩
    by_cases g2 : 8 ≤ slot
    · clear h
      go_enter Try.func42, Try.ntmps42
      go_wp2
      go_ret
      exact ⟨ret_zz HE.out.symm, rfl⟩
    by_cases g3 : gen < 1
    · clear h
      have g1' : 0 ≤ slot := by omega
      have g2' : slot < 8 := by omega
      go_enter Try.func42, Try.ntmps42
      go_wp2
      go_ret
      exact ⟨ret_zz HE.out.symm, rfl⟩
    have g1' : 0 ≤ slot := by omega
    have g2' : slot < 8 := by omega
    have g3' : 1 ≤ gen := by omega
    have g4' : 999 < gen := by omega
    clear h
    go_enter Try.func42, Try.ntmps42
    go_wp2
    go_ret
    exact ⟨ret_zz HE.out.symm, rfl⟩

end Go.Proofs.Ytjhdnachbahbmaa
