/- The law on GraphNew. -/
import Derived.Test.YtjihbmkhifnblaaGraphNewWalks
namespace Go.Proofs.Ytjihbmkhifnblaa
open Go.RowKit
set_option linter.unusedVariables false

theorem smallG_new : SmallG newG := ⟨by simp [newG], fun z hz => by simp [newG] at hz; subst hz; simp [emptyN], by simp [newG], by simp [newG], fun z hz => by simp [newG] at hz⟩

set_option maxHeartbeats 1000000 in
theorem gnew_law (w : World) : Calls Try.prog 3 #[] w fun e w' => e = .returned (.bool true) ∧ Below w.heap.size w w' := by
  have CE : Hid (∀ X u1 u2, RdG X u1 newG → RdG X u2 newG → _) := fun X u1 u2 h1 h2 => eqGraph_calls X u1 u2 newG h1 h2 smallG_new
  have CI : Hid (∀ X : World, _) := fun X => iGraphNew_calls X
  have CS : Hid (∀ X : World, _) := fun X => sGraphNew_calls X
  generalize newG = H at *
  go_enter Try.func3, Try.ntmps3
  go_wp2_with fail
  refine (CS.out _).mono ?_
  rintro e w1 ⟨v1, rfl, R1, b1⟩
  obtain ⟨a0, n0, k0, a1, n1, k1, a2, n2, k2, rfl⟩ := rdG_form R1
  obtain ⟨V, hV⟩ : ∃ V, V = w1.alloc (.cells #[.slice a0 n0 k0, .slice a1 n1 k1, .slice a2 n2 k2] 26) := ⟨_, rfl⟩
  have BV : Below w1.heap.size w1 V := by rw [hV]; exact (Below.refl _ _).alloc (Nat.le_refl _) _
  have hVs : V.heap.size = w1.heap.size + 1 := by rw [hV]; simp
  have BB : Below w.heap.size w V := b1.trans (BV.mono b1.size)
  have HR : Hid (∀ X, Below V.heap.size V X → RdG X _ H) := fun X hX => rdG_later (rdG_later R1 BV) hX
  have HK : Hid (∀ X, Below V.heap.size V X → _) := fun X (hX : Below V.heap.size V X) => three_kept w1 26 (.slice a0 n0 k0) (.slice a1 n1 k1) (.slice a2 n2 k2) X (by rw [hVs, hV] at hX; exact hX)
  clear R1 b1 BV CS
  go_wp2_with fail
  rw [← hV]
  refine (CI.out _).mono ?_
  rintro e w2 ⟨s, rfl, M2, b2⟩
  have HM : Hid (MemG w2 (V.heap.size + 1) s H) := M2
  have hcn := cntN_bd s.os M2.can.lo M2.can.lf
  have HL : Hid (s.os.length ≤ 16777216 ∧ (∀ t ∈ s.os, t.n ≤ 16777216) ∧ s.wn ≤ 16777216 ∧ s.sn ≤ 16777216) := ⟨M2.can.lo, M2.can.lf, M2.can.lw, M2.can.ls⟩
  obtain ⟨U, hU⟩ : ∃ U, U = w2.alloc (.cells #[.slice s.oa s.os.length s.oc, .slice s.wa s.wn s.wc, .slice s.sa s.sn s.sc] 26) := ⟨_, rfl⟩
  have BU : Below w2.heap.size w2 U := by rw [hU]; exact (Below.refl _ _).alloc (Nat.le_refl _) _
  have hUs : U.heap.size = w2.heap.size + 1 := by rw [hU]; simp
  have hs2 := b2.size
  have TU := b2.trans (BU.mono b2.size)
  have HS : Hid (∀ X, Below U.heap.size U X → _) := fun X (hX : Below U.heap.size U X) => three_kept w2 26 (.slice s.oa s.os.length s.oc) (.slice s.wa s.wn s.wc) (.slice s.sa s.sn s.sc) X (by rw [hUs, hU] at hX; exact hX)
  have hv : s.v = .agg #[.slice s.oa s.os.length s.oc, .slice s.wa s.wn s.wc, .slice s.sa s.sn s.sc] := rfl
  have HU : Hid (∀ X, Below U.heap.size U X → MemG X (V.heap.size + 1) s H) := fun X hX => memG_later (memG_later M2 BU) hX
  obtain ⟨c0, c1, c2⟩ := HK.out _ b2
  have h12 : w1.heap.size < w2.heap.size := by omega
  have h13 : ¬ w1.heap.size = w2.heap.size := by omega
  rw [hv]
  clear hV M2
  go_wp2_with fail
  rw [← hU]
  clear hU
  have RD : RdG U (.agg #[.slice s.oa s.os.length s.oc, .slice s.wa s.wn s.wc, .slice s.sa s.sn s.sc]) H := (HU.out _ (Below.refl _ _)).rd
  refine (CE.out _ _ _ RD (HR.out _ TU)).mono ?_
  rintro e w4 ⟨rfl, b4⟩
  have T4 := TU.trans (b4.mono TU.size)
  have M4 := HU.out _ b4
  have CM : Hid (∀ _ : Unit, _) := fun (_ : Unit) => markGraph_st w4 s M4.can
  have hk0 : (0 : Int) ≤ (s.k3 : Int) + (s.sn : Int) := by omega
  have HLT : Hid (∀ q ∈ markG s, V.heap.size + 1 ≤ q.1.block ∧ q.1.block < w2.heap.size) := fun q hq => ⟨loG_mark M4.lo q hq, (markG_lt HM.out.can q hq).1⟩
  have HH : Hid (∀ X, Below w4.heap.size (stores w4 (markG s)) X → HeldG X s) := fun X hX => memG_held M4 hX
  have CH : Hid (∀ X, HeldG X s → _) := fun X hX => heldGraph_at X s hX HL.out
  rw [hv] at CM CH
  generalize (s.k3 : Int) + (s.sn : Int) = K at CM hk0 CH
  generalize markG s = L at CM HLT HH
  have hs4 := b4.size
  clear c0 c1 c2
  obtain ⟨d0, d1, d2⟩ := HS.out _ b4
  clear RD hcn M4
  go_wp2_with fail
  refine (CM.out ()).mono ?_
  rintro e w5 ⟨rfl, b5⟩
  have hss : (stores w4 L).heap.size = w4.heap.size := stores_size _ _
  have N5 : Below (V.heap.size + 1) w4 w5 := (stores_below L (fun q hq => (HLT.out q hq).1) w4 (Below.refl _ _)).trans (b5.mono (by omega))
  have T5 := T4.trans (N5.mono (by omega))
  have K5 : Hid (∀ X, Below w5.heap.size w5 X → X.cell? ⟨w2.heap.size, 0, none⟩ = _ ∧ X.cell? ⟨w2.heap.size, 1, none⟩ = _ ∧ X.cell? ⟨w2.heap.size, 2, none⟩ = _) := fun X hX => by
    have hs5 := b5.size
    have hc : ∀ k, X.cell? ⟨w2.heap.size, k, none⟩ = w4.cell? ⟨w2.heap.size, k, none⟩ := fun k => by
      rw [hX.cell (p := ⟨w2.heap.size, k, none⟩) (by show w2.heap.size < _; omega), b5.cell (p := ⟨w2.heap.size, k, none⟩) (by show w2.heap.size < _; omega), stores_other _ _ (fun q hq e => by have := (HLT.out q hq).2; rw [e] at this; exact Nat.lt_irrefl _ this)]
    exact ⟨(hc 0).trans d0, (hc 1).trans d1, (hc 2).trans d2⟩
  have HH5 : Hid (HeldG w5 s) := HH.out _ b5
  clear d0 d1 d2 hss b5 N5 CM
  obtain ⟨d0, d1, d2⟩ := K5.out _ (Below.refl _ _)
  go_wp2_with fail
  refine (CH.out _ HH5.out).mono ?_
  rintro e w6 ⟨rfl, b6⟩
  have T6 := T5.trans (b6.mono T5.size)
  clear d0 d1 d2
  go_wp2_with fail
  refine (CI.out _).mono ?_
  rintro e w7 ⟨s7, rfl, M7, b7⟩
  have hv7 : s7.v = .agg #[.slice s7.oa s7.os.length s7.oc, .slice s7.wa s7.wn s7.wc, .slice s7.sa s7.sn s7.sc] := rfl
  have R7 := M7.rd
  rw [hv7] at R7 ⊢
  obtain ⟨Y, hY⟩ : ∃ Y, Y = w7.alloc (.cells #[.slice s7.oa s7.os.length s7.oc, .slice s7.wa s7.wn s7.wc, .slice s7.sa s7.sn s7.sc] 26) := ⟨_, rfl⟩
  have BY : Below w7.heap.size w7 Y := by rw [hY]; exact (Below.refl _ _).alloc (Nat.le_refl _) _
  have T7 := (T6.trans (b7.mono T6.size)).trans (BY.mono (T6.trans (b7.mono T6.size)).size)
  have Z7 := (b6.trans (b7.mono b6.size)).trans (BY.mono (b6.trans (b7.mono b6.size)).size)
  have RY := rdG_later R7 BY
  have T77 := T6.trans (b7.mono T6.size)
  obtain ⟨c0, c1, c2⟩ := HK.out _ T77
  have h17 : w1.heap.size < w7.heap.size := by have := T77.size; omega
  have h18 : ¬ w1.heap.size = w7.heap.size := by omega
  have hYs : Y.heap.size = w7.heap.size + 1 := by rw [hY]; simp
  obtain ⟨e0, e1, e2⟩ := three_kept w7 26 (.slice s7.oa s7.os.length s7.oc) (.slice s7.wa s7.wn s7.wc) (.slice s7.sa s7.sn s7.sc) Y (by rw [hY]; exact Below.refl _ _)
  clear M7 hv7 R7
  go_wp2_with fail
  rw [← hY]
  clear hY
  refine (CE.out _ _ _ RY (HR.out _ T7)).mono ?_
  rintro e w8 ⟨rfl, b8⟩
  have T8 := T7.trans (b8.mono T7.size)
  have Z8 := Z7.trans (b8.mono Z7.size)
  clear c0 c1 c2 e0 e1 e2
  obtain ⟨d0, d1, d2⟩ := K5.out _ Z8
  go_wp2_with fail
  refine (CH.out _ (heldG_later HH5.out Z8)).mono ?_
  rintro e w9 ⟨rfl, b9⟩
  have T9 := T8.trans (b9.mono T8.size)
  go_wp2
  go_ret
  exact ⟨rfl, BB.trans (T9.mono BB.size)⟩

end Go.Proofs.Ytjihbmkhifnblaa
