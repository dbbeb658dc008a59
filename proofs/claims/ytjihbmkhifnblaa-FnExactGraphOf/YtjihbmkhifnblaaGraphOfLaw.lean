/- The law on GraphOf, walked over any two GraphOf that answer one graph in memory of its own. -/
import Derived.Test.YtjihbmkhifnblaaGraphCopy
import Derived.Test.YtjihbmkhifnblaaAnyOps
import Derived.Deep.RegionHeld
namespace Go.Proofs.Ytjihbmkhifnblaa
open Go.RowKit
set_option linter.unusedVariables false
set_option maxRecDepth 100000

theorem gsh_v (s : GSh) : s.v = .agg #[.slice s.oa s.os.length s.oc, .slice s.wa s.wn s.wc, .slice s.sa s.sn s.sc] := rfl
theorem hsh_v (s : HSh) : s.v = .agg #[.slice s.oa s.os.length s.oc, .slice s.wa s.wn s.wc, .slice s.ba s.bn s.bc, .slice s.sa s.sn s.sc] := rfl

set_option maxHeartbeats 2000000 in
theorem graphOf_law (v : Value) (H : HeapD) (w : World) (r : RdH w v H) (y : SaneH H) (G : GrD) (hG : SmallH H → SmallG G)
    (hS : SmallH H → ∀ X u, RdH X u H → Calls Try.prog 16 #[u] X fun e w' => ∃ s : GSh, e = .returned s.v ∧ MemG w' X.heap.size s G ∧ Below X.heap.size X w')
    (hI : SmallH H → ∀ X u, RdH X u H → Calls Try.prog 18 #[u] X fun e w' => ∃ s : GSh, e = .returned s.v ∧ MemG w' X.heap.size s G ∧ Below X.heap.size X w') :
    Calls Try.prog 5 #[v] w fun e w' => e = .returned (.bool true) ∧ Below w.heap.size w w' := by
  have R : Hid (∀ X, Below w.heap.size w X → RdH X v H) := fun X hX => rdH_later r hX
  have CZ : Hid (∀ X, Below w.heap.size w X → _) := fun X hX => szHeap_calls X v H 1048576 (R.out X hX) y (by omega) (by omega)
  have VH : Hid (∃ a0 n0 k0 a1 n1 k1 a2 n2 k2 a3 n3 k3, v = .agg #[.slice a0 n0 k0, .slice a1 n1 k1, .slice a2 n2 k2, .slice a3 n3 k3]) := rdH_form r
  clear r
  by_cases hz : szH H 1048576 < 0
  · clear hS hI hG
    generalize szH H 1048576 = z at *
    obtain ⟨a0, n0, k0, a1, n1, k1, a2, n2, k2, a3, n3, k3, rfl⟩ := VH.out
    go_enter Try.func5, Try.ntmps5
    go_wp2_with fail
    have BW : Below w.heap.size w (w.alloc (.cells #[.slice a0 n0 k0, .slice a1 n1 k1, .slice a2 n2 k2, .slice a3 n3 k3] 42)) := (Below.refl _ _).alloc (Nat.le_refl _) _
    refine (CZ.out _ BW).mono ?_
    rintro e w1 ⟨rfl, b1⟩
    have B1 := BW.trans (b1.mono BW.size)
    clear BW b1
    go_wp2
    go_ret
    exact ⟨rfl, B1⟩
  · have hsm := szH_small H hz
    have CT : Hid (∀ X, Below w.heap.size w X → _) := fun X hX => toHeap_calls X v H (R.out X hX) hsm
    have CE : Hid (∀ X u1 u2, RdH X u1 H → RdH X u2 H → _) := fun X u1 u2 h1 h2 => eqHeap_calls X u1 u2 H h1 h2 hsm
    have CG : Hid (∀ X u1 u2, RdG X u1 G → RdG X u2 G → Calls Try.prog 8 #[u1, u2] X fun e w' => e = .returned (.bool true) ∧ Below X.heap.size X w') := fun X u1 u2 h1 h2 => eqGraph_calls X u1 u2 G h1 h2 (hG hsm)
    have CS : Hid (∀ X u, RdH X u H → _) := hS hsm
    have CI : Hid (∀ X u, RdH X u H → _) := hI hsm
    have HC : Hid (∀ X B u, OwnH X B u H → ∃ s : HSh, u = s.v ∧ CanH X s ∧ ∀ q ∈ markL s, B ≤ q.1.block) := fun X B u h => ownH_can h hsm
    clear hS hI hsm hG
    generalize szH H 1048576 = z at *
    have hz2 : 0 ≤ z := by omega
    obtain ⟨a0, n0, k0, a1, n1, k1, a2, n2, k2, a3, n3, k3, rfl⟩ := VH.out
    obtain ⟨W, hW⟩ : ∃ W, W = w.alloc (.cells #[.slice a0 n0 k0, .slice a1 n1 k1, .slice a2 n2 k2, .slice a3 n3 k3] 42) := ⟨_, rfl⟩
    have BW : Below w.heap.size w W := by rw [hW]; exact (Below.refl _ _).alloc (Nat.le_refl _) _
    have hWs : W.heap.size = w.heap.size + 1 := by rw [hW]; simp
    have HK : Hid (∀ X, Below W.heap.size W X → _) := fun X (hX : Below W.heap.size W X) => four_kept w 42 (.slice a0 n0 k0) (.slice a1 n1 k1) (.slice a2 n2 k2) (.slice a3 n3 k3) X (by rw [hWs, hW] at hX; exact hX)
    have HWB : Hid (∀ X, Below W.heap.size W X → Below w.heap.size w X) := fun X hX => BW.trans (hX.mono BW.size)
    clear VH R hz
    go_enter Try.func5, Try.ntmps5
    go_wp2_with fail
    rw [← hW]
    refine (CZ.out _ BW).mono ?_
    rintro e w1 ⟨rfl, T1⟩
    obtain ⟨c0, c1, c2, c3⟩ := HK.out _ T1
    have B1 := HWB.out _ T1
    have hs1 := T1.size
    clear hW CZ BW
    go_wp2_with fail
    refine (CT.out _ B1).mono ?_
    rintro e w2 ⟨u2, rfl, O2, b2⟩
    have T2 := T1.trans (b2.mono T1.size)
    have hs2 := b2.size
    clear c0 c1 c2 c3 b2 B1 T1
    go_wp2_with fail
    refine (CS.out _ u2 (ownH_rd O2)).mono ?_
    rintro e w3 ⟨sW, rfl, M3, b3⟩
    have T3 := T2.trans (b3.mono T2.size)
    have hs3 := b3.size
    have R3 : Hid (RdG w3 sW.v G) := M3.rd
    obtain ⟨V3, hV3⟩ : ∃ V, V = w3.alloc (.cells #[.slice sW.oa sW.os.length sW.oc, .slice sW.wa sW.wn sW.wc, .slice sW.sa sW.sn sW.sc] 26) := ⟨_, rfl⟩
    have BV3 : Below w3.heap.size w3 V3 := by rw [hV3]; exact (Below.refl _ _).alloc (Nat.le_refl _) _
    have hV3s : V3.heap.size = w3.heap.size + 1 := by rw [hV3]; simp
    have HX6 : Hid (∀ X, Below V3.heap.size V3 X → Tri X w3.heap.size (.slice sW.oa sW.os.length sW.oc) (.slice sW.wa sW.wn sW.wc) (.slice sW.sa sW.sn sW.sc)) := fun X hX => by
      have f : Tri V3 w3.heap.size (.slice sW.oa sW.os.length sW.oc) (.slice sW.wa sW.wn sW.wc) (.slice sW.sa sW.sn sW.sc) := by rw [hV3]; exact Tri.new w3 _ _ _
      exact f.later hX
    have HRW : Hid (∀ X, Below V3.heap.size V3 X → RdG X (.agg #[.slice sW.oa sW.os.length sW.oc, .slice sW.wa sW.wn sW.wc, .slice sW.sa sW.sn sW.sc]) G) := fun X hX => rdG_later (rdG_later R3.out BV3) hX
    have TV3 := T3.trans (BV3.mono T3.size)
    have HT3 : Hid (∀ X, Below V3.heap.size V3 X → Below W.heap.size W X) := fun X hX => TV3.trans (hX.mono TV3.size)
    obtain ⟨c0, c1, c2, c3⟩ := HK.out _ T3
    have hq3 : w.heap.size < w3.heap.size := by omega
    have hn3 : ¬ w.heap.size = w3.heap.size := by omega
    rw [gsh_v]
    clear O2 M3 b3 T2 T3 BV3 R3
    go_wp2_with fail
    rw [← hV3]
    clear hV3 c0 c1 c2 c3
    refine (CT.out _ (HWB.out _ TV3)).mono ?_
    rintro e w4 ⟨u4, rfl, O4, b4⟩
    have hs4 := b4.size
    obtain ⟨s4, hus, K4, M4⟩ := HC.out _ _ _ O4
    have HR4 : Hid (∀ X, Below w4.heap.size w4 X → RdH X u4 H) := fun X hX => ownH_rd (ownH_later O4 hX)
    have HM4 : Hid (∀ q ∈ markL s4, V3.heap.size ≤ q.1.block) := M4
    have HK4 : Hid (CanH w4 s4) := K4
    subst hus
    obtain ⟨V4, hV4⟩ : ∃ V, V = w4.alloc (.cells #[.slice s4.oa s4.os.length s4.oc, .slice s4.wa s4.wn s4.wc, .slice s4.ba s4.bn s4.bc, .slice s4.sa s4.sn s4.sc] 47) := ⟨_, rfl⟩
    have BV4 : Below w4.heap.size w4 V4 := by rw [hV4]; exact (Below.refl _ _).alloc (Nat.le_refl _) _
    have hV4s : V4.heap.size = w4.heap.size + 1 := by rw [hV4]; simp
    have HX7 : Hid (∀ X, Below V4.heap.size V4 X → Four X w4.heap.size (.slice s4.oa s4.os.length s4.oc) (.slice s4.wa s4.wn s4.wc) (.slice s4.ba s4.bn s4.bc) (.slice s4.sa s4.sn s4.sc)) := fun X hX => by
      have f : Four V4 w4.heap.size (.slice s4.oa s4.os.length s4.oc) (.slice s4.wa s4.wn s4.wc) (.slice s4.ba s4.bn s4.bc) (.slice s4.sa s4.sn s4.sc) := by rw [hV4]; exact Four.new w4 _ _ _ _
      exact f.later hX
    have A4 : Below V3.heap.size V3 V4 := b4.trans (BV4.mono b4.size)
    have HA4 : Hid (Below V3.heap.size V3 V4) := A4
    have hv4 := hsh_v s4
    rw [hv4]
    rw [hv4] at HR4
    clear O4 K4 M4 b4 HC CS
    go_wp2_with fail
    rw [← hV4]
    clear hV4
    refine (CI.out _ _ (HR4.out _ BV4)).mono ?_
    rintro e w5 ⟨sG, rfl, M5, b5⟩
    have hs5 := b5.size
    have HM5 : Hid (MemG w5 V4.heap.size sG G) := M5
    obtain ⟨V5, hV5⟩ : ∃ V, V = w5.alloc (.cells #[.slice sG.oa sG.os.length sG.oc, .slice sG.wa sG.wn sG.wc, .slice sG.sa sG.sn sG.sc] 26) := ⟨_, rfl⟩
    have BV5 : Below w5.heap.size w5 V5 := by rw [hV5]; exact (Below.refl _ _).alloc (Nat.le_refl _) _
    have hV5s : V5.heap.size = w5.heap.size + 1 := by rw [hV5]; simp
    have HX8 : Hid (Tri V5 w5.heap.size (.slice sG.oa sG.os.length sG.oc) (.slice sG.wa sG.wn sG.wc) (.slice sG.sa sG.sn sG.sc)) := by rw [hV5]; exact Tri.new w5 _ _ _
    have C5 : Below V4.heap.size V4 V5 := b5.trans (BV5.mono b5.size)
    have A5 : Below V3.heap.size V3 V5 := A4.trans (C5.mono A4.size)
    have HM5V : Hid (MemG V5 V4.heap.size sG G) := memG_later M5 BV5
    have x6 := HX6.out _ (A4.trans (b5.mono A4.size))
    have d0 := x6.cell 0
    have d1 := x6.cell 1
    have d2 := x6.cell 2
    simp only [List.getElem?_toArray, List.getElem?_cons_zero, List.getElem?_cons_succ] at d0 d1 d2
    have hq5 : w3.heap.size < w5.heap.size := by omega
    have hn5 : ¬ w3.heap.size = w5.heap.size := by omega
    have hvG := gsh_v sG
    have RG : RdG V5 (.agg #[.slice sG.oa sG.os.length sG.oc, .slice sG.wa sG.wn sG.wc, .slice sG.sa sG.sn sG.sc]) G := HM5V.out.rd
    have HRG : Hid (RdG V5 (.agg #[.slice sG.oa sG.os.length sG.oc, .slice sG.wa sG.wn sG.wc, .slice sG.sa sG.sn sG.sc]) G) := RG
    have HC5 : Hid (Below V4.heap.size V4 V5) := C5
    have HA5 : Hid (Below V3.heap.size V3 V5) := A5
    have HC4 : Hid (Below w4.heap.size w4 V5) := BV4.trans (C5.mono BV4.size)
    rw [hvG]
    clear M5 b5 BV5 BV4 A4 C5 A5 x6 RG TV3
    go_wp2_with fail
    rw [← hV5]
    clear hV5 d0 d1 d2
    refine (CG.out _ _ _ HRG.out (HRW.out _ HA5.out)).mono ?_
    rintro e w6 ⟨rfl, b6⟩
    have hs6 := b6.size
    have HB6 : Hid (Below V5.heap.size V5 w6) := b6
    have HT6 : Hid (∀ X, Below w6.heap.size w6 X → Below w.heap.size w X) := fun X hX => HWB.out _ (HT3.out _ (HA5.out.trans ((b6.trans (hX.mono b6.size)).mono HA5.out.size)))
    have HS : Hid (∀ X, Below w6.heap.size w6 X → (X.cell? ⟨w.heap.size, 0, none⟩ = some (.slice a0 n0 k0) ∧ X.cell? ⟨w.heap.size, 1, none⟩ = some (.slice a1 n1 k1) ∧ X.cell? ⟨w.heap.size, 2, none⟩ = some (.slice a2 n2 k2) ∧ X.cell? ⟨w.heap.size, 3, none⟩ = some (.slice a3 n3 k3)) ∧
        X.cell? ⟨w4.heap.size, 0, none⟩ = some (.slice s4.oa s4.os.length s4.oc) ∧ X.cell? ⟨w4.heap.size, 1, none⟩ = some (.slice s4.wa s4.wn s4.wc) ∧ X.cell? ⟨w4.heap.size, 2, none⟩ = some (.slice s4.ba s4.bn s4.bc) ∧ X.cell? ⟨w4.heap.size, 3, none⟩ = some (.slice s4.sa s4.sn s4.sc)) := fun X hX => by
      have h7 := HX7.out X (HC5.out.trans ((b6.trans (hX.mono b6.size)).mono HC5.out.size))
      exact ⟨HK.out X (HT3.out _ (HA5.out.trans ((b6.trans (hX.mono b6.size)).mono HA5.out.size))), h7.cell 0, h7.cell 1, h7.cell 2, h7.cell 3⟩
    have HR6 : Hid (∀ X, Below w6.heap.size w6 X → RdH X _ H) := fun X hX => HR4.out X (HC4.out.trans ((b6.trans (hX.mono b6.size)).mono HC4.out.size))
    have HT : Hid (∀ X, Below w6.heap.size w6 X → _) := fun X hX => CT.out X (HT6.out X hX)
    obtain ⟨⟨c0, c1, c2, c3⟩, e0, e1, e2, e3⟩ := HS.out w6 (Below.refl _ _)
    have D6 : Below w6.heap.size w6 w6.drew := (Below.refl _ _).drew
    clear b6 HX7
    go_wp2_with fail
    go_region_held (fun X => (X.cell? ⟨w.heap.size, 0, none⟩ = some (.slice a0 n0 k0) ∧ X.cell? ⟨w.heap.size, 1, none⟩ = some (.slice a1 n1 k1) ∧ X.cell? ⟨w.heap.size, 2, none⟩ = some (.slice a2 n2 k2) ∧ X.cell? ⟨w.heap.size, 3, none⟩ = some (.slice a3 n3 k3)) ∧
        X.cell? ⟨w4.heap.size, 0, none⟩ = some (.slice s4.oa s4.os.length s4.oc) ∧ X.cell? ⟨w4.heap.size, 1, none⟩ = some (.slice s4.wa s4.wn s4.wc) ∧ X.cell? ⟨w4.heap.size, 2, none⟩ = some (.slice s4.ba s4.bn s4.bc) ∧ X.cell? ⟨w4.heap.size, 3, none⟩ = some (.slice s4.sa s4.sn s4.sc))
      (first | exact HS.out _ B9 | exact HS.out _ B8 | exact HS.out _ D6)
      (first
        | (go_at_call 17; refine (HT.out _ D6).mono ?_; rintro e w8 ⟨u8, rfl, O8, b8⟩; have B8 := D6.trans (b8.mono D6.size))
        | (go_at_call 19; refine (CE.out _ _ _ (HR6.out _ B8) (ownH_rd O8)).mono ?_; rintro e w9 ⟨rfl, b9⟩; have B9 := B8.trans (b9.mono B8.size)))
    all_goals
      clear c0 c1 c2 c3 e0 e1 e2 e3
      obtain ⟨-, e0, e1, e2, e3⟩ := HS.out _ B9
      have B59 : Below V5.heap.size V5 w9 := HB6.out.trans (B9.mono HB6.out.size)
      have CM : Hid (∀ _ : Unit, _) := fun (_ : Unit) => markHeap_st w9 s4 (canH_later HK4.out (HC4.out.trans (B59.mono HC4.out.size)))
      rw [hv4] at CM
      have hk0 : (0 : Int) ≤ (s4.k3 : Int) + (s4.sn : Int) := by omega
      generalize (s4.k3 : Int) + (s4.sn : Int) = K at CM hk0
      have HLT : Hid (∀ q ∈ markL s4, V3.heap.size ≤ q.1.block ∧ q.1.block < w4.heap.size) := fun q hq => ⟨HM4.out q hq, (markL_lt HK4.out q hq).1⟩
      generalize markL s4 = L at CM HLT
      have HM9 : Hid (MemG w9 V4.heap.size sG G) := memG_later HM5V.out B59
      have HX9 : Hid (Tri w9 w5.heap.size (.slice sG.oa sG.os.length sG.oc) (.slice sG.wa sG.wn sG.wc) (.slice sG.sa sG.sn sG.sc)) := HX8.out.later B59
      have A9 : Below V3.heap.size V3 w9 := HA5.out.trans (B59.mono HA5.out.size)
      have hs9 := B59.size
      have HM5o : Hid (MemG w5 V4.heap.size sG G) := HM5
      clear HS HR6 HT b8 O8 b9 B8 B9 HM5V HX8 HB6 HM4 D6 HM5 HRG
      go_wp2_with fail
      refine (CM.out ()).mono ?_
      rintro e w10 ⟨rfl, b10⟩
      have hss : (stores w9 L).heap.size = w9.heap.size := stores_size _ _
      have hs10 : w9.heap.size ≤ w10.heap.size := by rw [← hss]; exact b10.size
      have hV34 : V3.heap.size ≤ w9.heap.size := by omega
      have N10 : Below V3.heap.size w9 w10 := (stores_below L (fun q hq => (HLT.out q hq).1) w9 (Below.refl _ _)).trans (b10.mono (by omega))
      have A10 : Below V3.heap.size V3 w10 := A9.trans N10
      have KB : KeepB V4.heap.size w9 w10 := ⟨hs10, fun g hg hl => by
        rw [b10.block g hl, stores_block L g (fun q hq e => by have := (HLT.out q hq).2; omega)]⟩
      have HM10 : Hid (MemG w10 V4.heap.size sG G) := memG_keepB HM9.out KB
      have HX10 : Hid (Tri w10 w5.heap.size (.slice sG.oa sG.os.length sG.oc) (.slice sG.wa sG.wn sG.wc) (.slice sG.sa sG.sn sG.sc)) := HX9.out.same (KB.2 w5.heap.size (by omega) (by omega))
      have x6 := HX6.out _ A10
      have d0 := x6.cell 0
      have d1 := x6.cell 1
      have d2 := x6.cell 2
      have x8 := HX10.out
      have g0 := x8.cell 0
      have g1 := x8.cell 1
      have g2 := x8.cell 2
      simp only [List.getElem?_toArray, List.getElem?_cons_zero, List.getElem?_cons_succ] at d0 d1 d2 g0 g1 g2
      have RG : RdG w10 (.agg #[.slice sG.oa sG.os.length sG.oc, .slice sG.wa sG.wn sG.wc, .slice sG.sa sG.sn sG.sc]) G := HM10.out.rd
      have HRG : Hid (RdG w10 (.agg #[.slice sG.oa sG.os.length sG.oc, .slice sG.wa sG.wn sG.wc, .slice sG.sa sG.sn sG.sc]) G) := RG
      clear hss b10 CM N10 A9 e0 e1 e2 e3 KB x6 x8 RG HX9 HM9 HLT
      go_wp2_with fail
      refine (CG.out _ _ _ HRG.out (HRW.out _ A10)).mono ?_
      rintro e w11 ⟨rfl, b11⟩
      have A11 := A10.trans (b11.mono (by omega : V3.heap.size ≤ w10.heap.size))
      have M11 : MemG w11 V4.heap.size sG G := memG_later HM10.out b11
      have X11 := HX10.out.later b11
      have MM : MemG w11 V4.heap.size sG G := M11
      have CM : Hid (∀ _ : Unit, _) := fun (_ : Unit) => markGraph_st w11 sG MM.can
      have hk1 : (0 : Int) ≤ (sG.k3 : Int) + (sG.sn : Int) := by omega
      have HLT : Hid (∀ q ∈ markG sG, V4.heap.size ≤ q.1.block ∧ q.1.block ≠ w5.heap.size) := fun q hq => ⟨loG_mark MM.lo q hq, fun e => by
        have hq2 := (markG_lt HM5o.out.can q hq).1
        omega⟩
      have HH : Hid (∀ X, Below w11.heap.size (stores w11 (markG sG)) X → HeldG X sG) := fun X hX => memG_held MM hX
      have CH : Hid (∀ X, HeldG X sG → _) := fun X hX => heldGraph_at X sG hX ⟨MM.can.lo, MM.can.lf, MM.can.lw, MM.can.ls⟩
      rw [hvG] at CM CH
      generalize (sG.k3 : Int) + (sG.sn : Int) = K2 at CM hk1 CH
      generalize markG sG = L2 at CM HLT HH
      have hs11 := b11.size
      clear d0 d1 d2 g0 g1 g2
      have g0 := X11.cell 0
      have g1 := X11.cell 1
      have g2 := X11.cell 2
      simp only [List.getElem?_toArray, List.getElem?_cons_zero, List.getElem?_cons_succ] at g0 g1 g2
      have HX11 : Hid (Tri w11 w5.heap.size (.slice sG.oa sG.os.length sG.oc) (.slice sG.wa sG.wn sG.wc) (.slice sG.sa sG.sn sG.sc)) := X11
      clear M11 X11 MM b11 A10 HX10 HM10 HRG
      go_wp2_with fail
      refine (CM.out ()).mono ?_
      rintro e w12 ⟨rfl, b12⟩
      have hss : (stores w11 L2).heap.size = w11.heap.size := stores_size _ _
      have hs12 : w11.heap.size ≤ w12.heap.size := by rw [← hss]; exact b12.size
      have N12 : Below V4.heap.size w11 w12 := (stores_below L2 (fun q hq => (HLT.out q hq).1) w11 (Below.refl _ _)).trans (b12.mono (by omega))
      have A12 : Below V3.heap.size V3 w12 := A11.trans (N12.mono (by omega))
      have HH12 : Hid (HeldG w12 sG) := HH.out _ b12
      have X12 : Tri w12 w5.heap.size (.slice sG.oa sG.os.length sG.oc) (.slice sG.wa sG.wn sG.wc) (.slice sG.sa sG.sn sG.sc) := HX11.out.same (by
        rw [b12.block _ (by omega), stores_block L2 _ (fun q hq => (HLT.out q hq).2)])
      have HX12 : Hid (∀ X, Below w12.heap.size w12 X → Tri X w5.heap.size (.slice sG.oa sG.os.length sG.oc) (.slice sG.wa sG.wn sG.wc) (.slice sG.sa sG.sn sG.sc)) := fun X hX => X12.later hX
      clear g0 g1 g2
      have g0 := X12.cell 0
      have g1 := X12.cell 1
      have g2 := X12.cell 2
      simp only [List.getElem?_toArray, List.getElem?_cons_zero, List.getElem?_cons_succ] at g0 g1 g2
      clear hss b12 CM N12 A11 X12 HH HLT HX11
      go_wp2_with fail
      refine (CH.out _ HH12.out).mono ?_
      rintro e w13 ⟨rfl, b13⟩
      have A13 := A12.trans (b13.mono (by omega : V3.heap.size ≤ w12.heap.size))
      have HB13 : Hid (Below w12.heap.size w12 w13) := b13
      have hs13 := b13.size
      have T13 := HT3.out _ A13
      obtain ⟨c0, c1, c2, c3⟩ := HK.out _ T13
      clear g0 g1 g2 b13 A12
      go_wp2_with fail
      refine (CT.out _ (HWB.out _ T13)).mono ?_
      rintro e w14 ⟨u14, rfl, O14, b14⟩
      have A14 := A13.trans (b14.mono A13.size)
      have HB14 : Hid (Below w12.heap.size w12 w14) := HB13.out.trans (b14.mono HB13.out.size)
      have hs14 := b14.size
      clear c0 c1 c2 c3 b14 A13 T13
      go_wp2_with fail
      refine (CI.out _ u14 (ownH_rd O14)).mono ?_
      rintro e w15 ⟨s15, rfl, M15, b15⟩
      have A15 := A14.trans (b15.mono A14.size)
      have HB15 : Hid (Below w12.heap.size w12 w15) := HB14.out.trans (b15.mono HB14.out.size)
      have hs15 := b15.size
      have R15 := M15.rd
      rw [gsh_v] at R15 ⊢
      obtain ⟨Y, hY⟩ : ∃ Y, Y = w15.alloc (.cells #[.slice s15.oa s15.os.length s15.oc, .slice s15.wa s15.wn s15.wc, .slice s15.sa s15.sn s15.sc] 26) := ⟨_, rfl⟩
      have BY : Below w15.heap.size w15 Y := by rw [hY]; exact (Below.refl _ _).alloc (Nat.le_refl _) _
      have AY := A15.trans (BY.mono A15.size)
      have HBY : Hid (Below w12.heap.size w12 Y) := HB15.out.trans (BY.mono HB15.out.size)
      have HRY : Hid (RdG Y (.agg #[.slice s15.oa s15.os.length s15.oc, .slice s15.wa s15.wn s15.wc, .slice s15.sa s15.sn s15.sc]) G) := rdG_later R15 BY
      have x6 := HX6.out _ A15
      have d0 := x6.cell 0
      have d1 := x6.cell 1
      have d2 := x6.cell 2
      simp only [List.getElem?_toArray, List.getElem?_cons_zero, List.getElem?_cons_succ] at d0 d1 d2
      have hq15 : w3.heap.size < w15.heap.size := by omega
      have hn15 : ¬ w3.heap.size = w15.heap.size := by omega
      have hYs : Y.heap.size = w15.heap.size + 1 := by rw [hY]; simp
      clear O14 M15 b15 A14 R15 BY x6 HB14 HB15
      go_wp2_with fail
      rw [← hY]
      clear hY d0 d1 d2
      refine (CG.out _ _ _ HRY.out (HRW.out _ AY)).mono ?_
      rintro e w16 ⟨rfl, b16⟩
      have A16 := AY.trans (b16.mono AY.size)
      have Z16 := HBY.out.trans (b16.mono HBY.out.size)
      have x8 := HX12.out _ Z16
      have g0 := x8.cell 0
      have g1 := x8.cell 1
      have g2 := x8.cell 2
      simp only [List.getElem?_toArray, List.getElem?_cons_zero, List.getElem?_cons_succ] at g0 g1 g2
      clear b16 x8 AY
      go_wp2_with fail
      refine (CH.out _ (heldG_later HH12.out Z16)).mono ?_
      rintro e w17 ⟨rfl, b17⟩
      have T17 := HWB.out _ (HT3.out _ (A16.trans (b17.mono A16.size)))
      go_wp2
      go_ret
      exact ⟨rfl, T17⟩

end Go.Proofs.Ytjihbmkhifnblaa
