/- The law on HeapOk, walked over any two HeapOk that answer alike at heaps whose slices fit their capacity, and write nothing that was there. -/
import Derived.Test.YtebgngofnmcklaaHeapMath
import Derived.Test.YtebgngofnmcklaaHeapMark
namespace Go.Proofs.Ytebgngofnmcklaa
open Go.RowKit
set_option linter.unusedVariables false
set_option maxRecDepth 100000

theorem heapOkCap_law (v : Value) (H : HeapD) (w : World) (r : RdH w v H) (y : SaneH H) (b : Bool)
    (hS : SmallH H → ∀ X u, Below w.heap.size w X → RdH X u H → CapH u → Calls Try.prog 5 #[u] X fun e w' => e = .returned (.bool b) ∧ Below X.heap.size X w')
    (hI : SmallH H → ∀ X u, Below w.heap.size w X → RdH X u H → CapH u → Calls Try.prog 7 #[u] X fun e w' => e = .returned (.bool b) ∧ Below X.heap.size X w') :
    Calls Try.prog 3 #[v] w fun e w' => e = .returned (.bool true) ∧ Below w.heap.size w w' := by
  have R : Hid (∀ X, Below w.heap.size w X → RdH X v H) := fun X hX => rdH_later r hX
  have CZ : Hid (∀ X, Below w.heap.size w X → _) := fun X hX => szHeap_calls X v H 1048576 (R.out X hX) y (by omega) (by omega)
  have VH : Hid (∃ a0 n0 k0 a1 n1 k1 a2 n2 k2 a3 n3 k3, v = .agg #[.slice a0 n0 k0, .slice a1 n1 k1, .slice a2 n2 k2, .slice a3 n3 k3]) := rdH_form r
  clear r
  by_cases hz : szH H 1048576 < 0
  · clear hS hI
    generalize szH H 1048576 = z at *
    obtain ⟨a0, n0, k0, a1, n1, k1, a2, n2, k2, a3, n3, k3, rfl⟩ := VH.out
    go_enter Try.func3, Try.ntmps3
    go_wp2_with fail
    have BW : Below w.heap.size w (w.alloc (.cells #[.slice a0 n0 k0, .slice a1 n1 k1, .slice a2 n2 k2, .slice a3 n3 k3] 27)) := (Below.refl _ _).alloc (Nat.le_refl _) _
    refine (CZ.out _ BW).mono ?_
    rintro e w1 ⟨rfl, b1⟩
    have B1 := BW.trans (b1.mono BW.size)
    clear BW b1
    go_wp2
    go_ret
    exact ⟨rfl, B1⟩
  · have hsm := szH_small H hz
    have CT : Hid (∀ X, Below w.heap.size w X → _) := fun X hX => toHeap_calls X v H (R.out X hX) hsm
    have CE : Hid (∀ X u1 u2, RdH X u1 H → RdH X u2 H → _) := fun X u1 u2 h1 h2 => eqHeap_calls X u1 u2 H h1 h2 hsm
    have CS : Hid (∀ X u, Below w.heap.size w X → RdH X u H → CapH u → _) := hS hsm
    have CI : Hid (∀ X u, Below w.heap.size w X → RdH X u H → CapH u → _) := hI hsm
    clear hS hI hsm
    generalize szH H 1048576 = z at *
    have hz2 : 0 ≤ z := by omega
    obtain ⟨a0, n0, k0, a1, n1, k1, a2, n2, k2, a3, n3, k3, rfl⟩ := VH.out
    obtain ⟨W, hW⟩ : ∃ W, W = w.alloc (.cells #[.slice a0 n0 k0, .slice a1 n1 k1, .slice a2 n2 k2, .slice a3 n3 k3] 27) := ⟨_, rfl⟩
    have BW : Below w.heap.size w W := by rw [hW]; exact (Below.refl _ _).alloc (Nat.le_refl _) _
    have hWs : W.heap.size = w.heap.size + 1 := by rw [hW]; simp
    have HK : Hid (∀ X, Below W.heap.size W X → _) := fun X (hX : Below W.heap.size W X) => four_kept w 27 (.slice a0 n0 k0) (.slice a1 n1 k1) (.slice a2 n2 k2) (.slice a3 n3 k3) X (by rw [hWs, hW] at hX; exact hX)
    clear VH R hz
    go_enter Try.func3, Try.ntmps3
    go_wp2_with fail
    rw [← hW]
    refine (CZ.out _ BW).mono ?_
    rintro e w1 ⟨rfl, b1⟩
    have B1 := BW.trans (b1.mono BW.size)
    have T1 := b1
    obtain ⟨c0, c1, c2, c3⟩ := HK.out _ T1
    clear hW hWs b1 CZ
    go_wp2_with fail
    refine (CT.out _ B1).mono ?_
    rintro e w2 ⟨u2, rfl, O2, b2⟩
    have B2 := B1.trans (b2.mono B1.size)
    have T2 := T1.trans (b2.mono T1.size)
    clear c0 c1 c2 c3 b2 B1 T1
    go_wp2_with fail
    refine (CS.out _ u2 B2 (ownH_rd O2) (ownH_cap O2)).mono ?_
    rintro e w3 ⟨rfl, b3⟩
    have B3 := B2.trans (b3.mono B2.size)
    have T3 := T2.trans (b3.mono T2.size)
    obtain ⟨c0, c1, c2, c3⟩ := HK.out _ T3
    clear b3 B2 T2 O2
    go_wp2_with fail
    refine (CT.out _ B3).mono ?_
    rintro e w4 ⟨u4, rfl, O4, b4⟩
    have B4 := B3.trans (b4.mono B3.size)
    have T4 := T3.trans (b4.mono T3.size)
    clear c0 c1 c2 c3 b4 B3 T3
    obtain ⟨d0, m0, j0, d1, m1, j1, d2, m2, j2, d3, m3, j3, hu4⟩ := rdH_form (ownH_rd O4)
    subst hu4
    have RX : Hid (∀ X, Below w4.heap.size w4 X → RdH X _ H) := fun X hX => ownH_rd (ownH_later O4 hX)
    go_wp2_with fail
    obtain ⟨V, hV⟩ : ∃ V, V = w4.alloc (.cells #[.slice d0 m0 j0, .slice d1 m1 j1, .slice d2 m2 j2, .slice d3 m3 j3] 33) := ⟨_, rfl⟩
    have BV : Below w4.heap.size w4 V := by rw [hV]; exact (Below.refl _ _).alloc (Nat.le_refl _) _
    have hVs : V.heap.size = w4.heap.size + 1 := by rw [hV]; simp
    have HX : Hid (∀ X, Below V.heap.size V X → _) := fun X (hX : Below V.heap.size V X) => four_kept w4 33 (.slice d0 m0 j0) (.slice d1 m1 j1) (.slice d2 m2 j2) (.slice d3 m3 j3) X (by rw [hVs, hV] at hX; exact hX)
    have T5 := T4.trans (BV.mono T4.size)
    have B5 := B4.trans (BV.mono B4.size)
    rw [← hV]
    refine (CI.out _ _ B5 (RX.out _ BV) (ownH_cap O4)).mono ?_
    rintro e w6 ⟨rfl, b6⟩
    have U6 := BV.trans (b6.mono BV.size)
    have B6 := B5.trans (b6.mono B5.size)
    have T6 := T5.trans (b6.mono T5.size)
    have HS : Hid (∀ X, Below w6.heap.size w6 X → (X.cell? ⟨w.heap.size, 0, none⟩ = some (.slice a0 n0 k0) ∧ X.cell? ⟨w.heap.size, 1, none⟩ = some (.slice a1 n1 k1) ∧ X.cell? ⟨w.heap.size, 2, none⟩ = some (.slice a2 n2 k2) ∧ X.cell? ⟨w.heap.size, 3, none⟩ = some (.slice a3 n3 k3)) ∧
        X.cell? ⟨w4.heap.size, 0, none⟩ = some (.slice d0 m0 j0) ∧ X.cell? ⟨w4.heap.size, 1, none⟩ = some (.slice d1 m1 j1) ∧ X.cell? ⟨w4.heap.size, 2, none⟩ = some (.slice d2 m2 j2) ∧ X.cell? ⟨w4.heap.size, 3, none⟩ = some (.slice d3 m3 j3)) :=
      fun X hX => ⟨HK.out X (T6.trans (hX.mono T6.size)), HX.out X (b6.trans (hX.mono b6.size))⟩
    obtain ⟨⟨c0, c1, c2, c3⟩, x0, x1, x2, x3⟩ := HS.out w6 (Below.refl _ _)
    have HR : Hid (∀ X, Below w6.heap.size w6 X → RdH X _ H) := fun X hX => RX.out X (U6.trans (hX.mono U6.size))
    have HT : Hid (∀ X, Below w6.heap.size w6 X → _) := fun X hX => CT.out X (B6.trans (hX.mono B6.size))
    have D6 : Below w6.heap.size w6 w6.drew := (Below.refl _ _).drew
    clear hV hVs O4 CS CI T4 T5 B4 B5 CT RX HX HK b6
    go_wp2_with fail
    go_region_held (fun X => (X.cell? ⟨w.heap.size, 0, none⟩ = some (.slice a0 n0 k0) ∧ X.cell? ⟨w.heap.size, 1, none⟩ = some (.slice a1 n1 k1) ∧ X.cell? ⟨w.heap.size, 2, none⟩ = some (.slice a2 n2 k2) ∧ X.cell? ⟨w.heap.size, 3, none⟩ = some (.slice a3 n3 k3)) ∧
        X.cell? ⟨w4.heap.size, 0, none⟩ = some (.slice d0 m0 j0) ∧ X.cell? ⟨w4.heap.size, 1, none⟩ = some (.slice d1 m1 j1) ∧ X.cell? ⟨w4.heap.size, 2, none⟩ = some (.slice d2 m2 j2) ∧ X.cell? ⟨w4.heap.size, 3, none⟩ = some (.slice d3 m3 j3))
      (first | exact HS.out _ B8 | exact HS.out _ B7 | exact HS.out _ D6)
      (first
        | (go_at_call 6; refine (HT.out _ D6).mono ?_; rintro e w7 ⟨u7, rfl, O7, b7⟩; have B7 := D6.trans (b7.mono D6.size))
        | (go_at_call 8; refine (CE.out _ _ _ (HR.out _ B7) (ownH_rd O7)).mono ?_; rintro e w8 ⟨rfl, b8⟩; have B8 := B7.trans (b8.mono B7.size)))
    all_goals
      have BB := B6.trans (B8.mono B6.size)
      clear HS HR HT CE
      go_wp2
      go_ret
      exact ⟨rfl, BB⟩

end Go.Proofs.Ytebgngofnmcklaa
