/- eqHeap at greater heaps. -/
import Derived.Test.YtjhceoejblmihaaHeap2Walks
namespace Go.Proofs.Ytjhceoejblmihaa
open Go.RowKit
set_option linter.unusedVariables false
set_option maxRecDepth 100000

/-- eqHeap at two heaps that hold the same, of parts up to 2^24. -/
theorem eqHeap_big (w : World) (v u : Value) (H : HeapD) (h1 : RdH w v H) (h2 : RdH w u H) (m0 : H.objs.length ≤ 16777216) (m1 : ∀ z ∈ H.objs, z.field.length ≤ 16777216) (m2 : H.weaks.length ≤ 16777216) (m3 : H.buffer.length ≤ 16777216) (m4 : H.sites.length ≤ 16777216) :
    Calls Try.prog 14 #[v, u] w fun e w' => e = .returned (.bool true) ∧ Below w.heap.size w w' := by
  obtain ⟨ao, co, aw, cw, ab, cb, sa, sc, rfl, ro, rwk, ri, rs⟩ := h1
  obtain ⟨ao2, co2, aw2, cw2, ab2, cb2, sa2, sc2, rfl, ro2, rwk2, ri2, rs2⟩ := h2
  obtain ⟨W, hW⟩ : ∃ W, W = (w.alloc (.cells #[.slice ao H.objs.length co, .slice aw H.weaks.length cw, .slice ab H.buffer.length cb, .slice sa H.sites.length sc] 35)).alloc (.cells #[.slice ao2 H.objs.length co2, .slice aw2 H.weaks.length cw2, .slice ab2 H.buffer.length cb2, .slice sa2 H.sites.length sc2] 35) := ⟨_, rfl⟩
  have BW : Below w.heap.size w W := by
    rw [hW]
    exact ((Below.refl _ _).alloc (Nat.le_refl _) _).alloc (by simp) _
  have hWs : W.heap.size = w.heap.size + 1 + 1 := by rw [hW]; simp
  have HP : Hid (∀ X, Below W.heap.size W X → ∀ k, X.cell? ⟨w.heap.size, k, none⟩ = (#[Value.slice ao H.objs.length co, .slice aw H.weaks.length cw, .slice ab H.buffer.length cb, .slice sa H.sites.length sc] : Array Value)[k]?) := by
    intro X hX k
    rw [hX.cell (p := ⟨w.heap.size, k, none⟩) (by show w.heap.size < _; omega), hW, World.cell?_alloc_lt _ _ _ (by simp), World.cell?_alloc_mark]
  have HP2 : Hid (∀ X, Below W.heap.size W X → ∀ k, X.cell? ⟨w.heap.size + 1, k, none⟩ = (#[Value.slice ao2 H.objs.length co2, .slice aw2 H.weaks.length cw2, .slice ab2 H.buffer.length cb2, .slice sa2 H.sites.length sc2] : Array Value)[k]?) := by
    intro X hX k
    rw [hX.cell (p := ⟨w.heap.size + 1, k, none⟩) (by show w.heap.size + 1 < _; omega), hW, show w.heap.size + 1 = (w.alloc (.cells #[.slice ao H.objs.length co, .slice aw H.weaks.length cw, .slice ab H.buffer.length cb, .slice sa H.sites.length sc] 35)).heap.size from by simp, World.cell?_alloc_mark]
  have CO : Hid (∀ X, Below w.heap.size w X → _) := fun X hX => eqObjS_calls X ao ao2 co co2 H.objs (rdO_later ro hX) (rdO_later ro2 hX) m0 m1
  have CW : Hid (∀ X, Below w.heap.size w X → _) := fun X hX => eqWeakS_calls X aw aw2 cw cw2 H.weaks (rdW_later rwk hX) (rdW_later rwk2 hX) m2
  have CI : Hid (∀ X, Below w.heap.size w X → _) := fun X hX => eqIntS_rd X ab ab2 cb cb2 H.buffer (rdI_later ri hX) (rdI_later ri2 hX) m3
  have CS : Hid (∀ X, Below w.heap.size w X → _) := fun X hX => eqStringS_rd X sa sa2 sc sc2 H.sites (rdS_later rs hX) (rdS_later rs2 hX) m4
  clear ro rwk ri rs ro2 rwk2 ri2 rs2
  go_enter Try.func14, Try.ntmps14
  go_wp2_with fail
  rw [← hW]
  have B0 := BW
  have T0 : Below W.heap.size W W := Below.refl _ _
  refine (CO.out _ B0).mono ?_
  rintro e w1 ⟨rfl, b1⟩
  have B1 := B0.trans (b1.mono B0.size)
  have T1 := T0.trans (b1.mono T0.size)
  have k1 := HP.out _ T1 1
  have l1 := HP2.out _ T1 1
  simp at k1 l1
  clear hW hWs
  go_wp2_with fail
  refine (CW.out _ B1).mono ?_
  rintro e w2 ⟨rfl, b2⟩
  have B2 := B1.trans (b2.mono B1.size)
  have T2 := T1.trans (b2.mono T1.size)
  have k2 := HP.out _ T2 2
  have l2 := HP2.out _ T2 2
  simp at k2 l2
  clear k1 l1
  go_wp2_with fail
  refine (CI.out _ B2).mono ?_
  rintro e w3 ⟨rfl, b3⟩
  have B3 := B2.trans (b3.mono B2.size)
  have T3 := T2.trans (b3.mono T2.size)
  have k3 := HP.out _ T3 3
  have l3 := HP2.out _ T3 3
  simp at k3 l3
  clear k2 l2
  go_wp2_with fail
  refine (CS.out _ B3).mono ?_
  rintro e w4 ⟨rfl, b4⟩
  have B4 := B3.trans (b4.mono B3.size)
  have T4 := T3.trans (b4.mono T3.size)
  clear k3 l3
  go_wp2
  go_ret
  exact ⟨rfl, B4⟩

end Go.Proofs.Ytjhceoejblmihaa
