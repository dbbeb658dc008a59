/- The law on Lose, walked over any two Lose that answer one heap and one list, in memory of their own. -/
import Derived.Test.YtohhabbhdpohcaaLoseState
import Derived.Test.YtohhabbhdpohcaaEqBig
import Derived.Deep.RegionHeld
namespace Go.Proofs.Ytohhabbhdpohcaa
open Go.RowKit
set_option linter.unusedVariables false
set_option maxRecDepth 100000

theorem hshv (s : HSh) : s.v = .agg #[.slice s.oa s.os.length s.oc, .slice s.wa s.wn s.wc, .slice s.ba s.bn s.bc, .slice s.sa s.sn s.sc] := rfl
theorem mark_has {s : HSh} (q : Addr × Value) (hq : q ∈ markL s) : HasB s q.1.block := by
  unfold markL at hq
  simp only [List.mem_append] at hq
  rcases hq with hq | hq | hq | hq
  · obtain ⟨x, hx, ⟨j2, i, hj2, h1, h2, h3⟩ | ⟨t, ht, h4, y, h5, h6⟩⟩ := mkO_where s 1 q hq
    · exact .inl ⟨x, hx, by rw [h3]⟩
    · exact .inr (.inr (.inr (.inr ⟨t, ht, y, h5, h6.symm⟩)))
  · obtain ⟨h1, x, h2, h3⟩ := mkW_block _ _ _ _ hq
    exact .inr (.inl ⟨x, h2, h3.symm⟩)
  · obtain ⟨h1, x, h2, h3⟩ := mkI_block _ _ _ _ hq
    exact .inr (.inr (.inl ⟨x, h2, h3.symm⟩))
  · obtain ⟨h1, x, h2, h3⟩ := mkS_block _ _ _ _ hq
    exact .inr (.inr (.inr (.inl ⟨x, h2, h3.symm⟩)))
theorem heldH_far {w : World} {s : HSh} (L : Sts) (h : HeldH w s) (hL : ∀ q ∈ L, ¬ HasB s q.1.block) : HeldH (stores w L) s := by
  refine ⟨fun q hq => ?_, fun j hj => ?_, h.wk, h.b, h.st⟩
  · rw [stores_other _ _ (fun p hp e => hL p hp (by rw [e]; exact mark_has q hq))]
    exact h.all q hq
  · obtain ⟨g, off, h1, h2, h3, h4⟩ := h.head j hj
    refine ⟨g, off, h1, by rw [stores_size]; exact h2, ?_, h4⟩
    rw [stores_other _ _ (fun p hp e => hL p hp (.inl ⟨_, h1, by rw [e]⟩))]
    exact h3
/-- What is marked in a list is held. -/
theorem heldI_of {w : World} {a : Option Addr} {n : Nat} {k : Int} (h : CanI w a n) : ∀ p ∈ mkI a k n, (stores w (mkI a k n)).cell? p.1 = some p.2 := stores_mem _ (mkI_nodup a k n) w (fun p hp => mkI_some h p hp)

/-- Two heaps' and lists' worth of what Lose answers. -/
def LoseAt (f : Nat) (H : HeapD) (ids : List Int) (R : HeapD × List Int) : Prop := ∀ X u xa xc, RdH X u H → RdI X xa ids → Calls Try.prog f #[u, .slice xa ids.length xc] X fun e w' => ∃ (s : HSh) (vf : Value), e = .returned (.tuple #[s.v, vf]) ∧ HM w' X.heap.size s R.1 ∧ ownI w' X.heap.size vf R.2 ∧ (∀ g, vf.ownBlock = some g → ¬ HasB s g) ∧ Below X.heap.size X w'

set_option maxHeartbeats 8000000 in
theorem lose_law (v : Value) (H : HeapD) (ia : Option Addr) (ic : Nat) (ids : List Int) (w : World) (r : RdH w v H) (y : SaneH H) (ri : RdI w ia ids) (yl : ids.length ≤ 9223372036854775807) (R : HeapD × List Int)
    (hG : SmallH H → ids.length ≤ 1048576 → (R.1.objs.length ≤ 16777216 ∧ (∀ z ∈ R.1.objs, z.field.length ≤ 16777216) ∧ R.1.weaks.length ≤ 16777216 ∧ R.1.buffer.length ≤ 16777216 ∧ R.1.sites.length ≤ 16777216) ∧ R.2.length ≤ 16777216)
    (hS : SmallH H → ids.length ≤ 1048576 → LoseAt 16 H ids R) (hI : SmallH H → ids.length ≤ 1048576 → LoseAt 11 H ids R) :
    Calls Try.prog 6 #[v, .slice ia ids.length ic] w fun e w' => e = .returned (.bool true) ∧ Below w.heap.size w w' := by
  have RR : Hid (∀ X, Below w.heap.size w X → RdH X v H) := fun X hX => rdH_later r hX
  have RI : Hid (∀ X, Below w.heap.size w X → RdI X ia ids) := fun X hX => rdI_later ri hX
  have CZ : Hid (∀ X, Below w.heap.size w X → _) := fun X hX => szHeap_calls X v H 1048576 (RR.out X hX) y (by omega) (by omega)
  have VH : Hid (∃ a0 n0 k0 a1 n1 k1 a2 n2 k2 a3 n3 k3, v = .agg #[.slice a0 n0 k0, .slice a1 n1 k1, .slice a2 n2 k2, .slice a3 n3 k3]) := rdH_form r
  obtain ⟨L, hL⟩ : ∃ L, ids.length = L := ⟨_, rfl⟩
  have HL : Hid (ids.length = L) := hL
  rw [hL] at yl ⊢
  clear r ri hL
  obtain ⟨a0, n0, k0, a1, n1, k1, a2, n2, k2, a3, n3, k3, rfl⟩ := VH.out
  obtain ⟨W, hW⟩ : ∃ W, W = w.alloc (.cells #[.slice a0 n0 k0, .slice a1 n1 k1, .slice a2 n2 k2, .slice a3 n3 k3] 45) := ⟨_, rfl⟩
  have BW : Below w.heap.size w W := by rw [hW]; exact (Below.refl _ _).alloc (Nat.le_refl _) _
  have hWs : W.heap.size = w.heap.size + 1 := by rw [hW]; simp
  by_cases hbig : 1048576 < L
  · clear hS hI hG
    have hbi : (1048576 : Int) < (L : Int) := by omega
    go_enter Try.func6, Try.ntmps6
    go_wp2
    go_ret
    exact ⟨rfl, (Below.refl _ _).alloc (Nat.le_refl _) _⟩
  have hnb : ¬ (1048576 : Int) < (L : Int) := by omega
  by_cases hz : szH H 1048576 < 0
  · clear hS hI hG
    generalize szH H 1048576 = z at *
    go_enter Try.func6, Try.ntmps6
    go_wp2_with fail
    rw [← hW]
    clear hW
    refine (CZ.out _ BW).mono ?_
    rintro e w1 ⟨rfl, b1⟩
    have B1 := BW.trans (b1.mono BW.size)
    clear BW b1
    go_wp2
    go_ret
    exact ⟨rfl, B1⟩
  · have hsm := szH_small H hz
    have hil : ids.length ≤ 1048576 := by rw [HL.out]; omega
    have CT : Hid (∀ X, Below w.heap.size w X → _) := fun X hX => toHeap_calls X _ H (RR.out X hX) hsm
    have CTI : Hid (∀ X, Below w.heap.size w X → _) := fun X hX => toIntS_calls X ia ic ids (RI.out X hX) (by omega)
    rw [HL.out] at CTI
    have CE : Hid (∀ X u1 u2, RdH X u1 H → RdH X u2 H → _) := fun X u1 u2 h1 h2 => eqHeap_calls X u1 u2 H h1 h2 hsm
    obtain ⟨hG1, hG2⟩ := hG hsm hil
    have CG : Hid (∀ X u1 u2, RdH X u1 R.1 → RdH X u2 R.1 → Calls Try.prog 22 #[u1, u2] X fun e w' => e = .returned (.bool true) ∧ Below X.heap.size X w') := fun X u1 u2 h1 h2 => eqHeap_big X u1 u2 R.1 h1 h2 hG1.1 hG1.2.1 hG1.2.2.1 hG1.2.2.2.1 hG1.2.2.2.2
    have CIQ : Hid (∀ X a b c d, RdI X a R.2 → RdI X b R.2 → _) := fun X a b c d h1 h2 => eqIntS_rd X a b c d R.2 h1 h2 hG2
    have CIX : Hid (∀ X a b c d, RdI X a ids → RdI X b ids → _) := fun X a b c d h1 h2 => eqIntS_rd X a b c d ids h1 h2 (by omega)
    rw [HL.out] at CIX
    have CS : Hid (∀ X u xa xc, RdH X u H → RdI X xa ids → _) := hS hsm hil
    have CI : Hid (∀ X u xa xc, RdH X u H → RdI X xa ids → _) := hI hsm hil
    rw [HL.out] at CS CI
    have HGL : Hid _ := hG1
    have HC : Hid (∀ X B u, OwnH X B u H → ∃ s : HSh, u = s.v ∧ CanH X s ∧ ∀ q ∈ markL s, B ≤ q.1.block) := fun X B u h => ownH_can h hsm
    obtain ⟨N, hN⟩ : ∃ N, R.2.length = N := ⟨_, rfl⟩
    have HN : Hid (R.2.length = N) := hN
    rw [hN] at CIQ hG2
    have hK : Hid (∀ (X : World) (s : HSh), CanH X s → (0 : Int) ≤ (s.k3 : Int) + (s.sn : Int) ∧ (s.k3 : Int) + (s.sn : Int) ≤ 1000000000000000) := fun X s hc => by
      have h1 := cntO_bd s.os hc.lo hc.lf
      have h2 := hc.lw
      have h3 := hc.lb
      have h4 := hc.ls
      unfold HSh.k3
      omega
    clear hS hI hsm hG hG1 hN RR RI VH
    generalize szH H 1048576 = z at *
    have hz2 : 0 ≤ z := by omega
    have HK : Hid (∀ X, Below W.heap.size W X → _) := fun X (hX : Below W.heap.size W X) => four_kept w 45 (.slice a0 n0 k0) (.slice a1 n1 k1) (.slice a2 n2 k2) (.slice a3 n3 k3) X (by rw [hWs, hW] at hX; exact hX)
    have HWB : Hid (∀ X, Below W.heap.size W X → Below w.heap.size w X) := fun X hX => BW.trans (hX.mono BW.size)
    clear hz
    go_enter Try.func6, Try.ntmps6
    go_wp2_with fail
    rw [← hW]
    refine (CZ.out _ BW).mono ?_
    rintro e w1 ⟨rfl, T1⟩
    obtain ⟨c0, c1, c2, c3⟩ := HK.out _ T1
    have hs1 := T1.size
    have B1 := HWB.out _ T1
    clear hW CZ BW
    go_wp2_with fail
    refine (CT.out _ B1).mono ?_
    rintro e w2 ⟨u2, rfl, O2, b2⟩
    have T2 := T1.trans (b2.mono T1.size)
    have hs2 := b2.size
    clear c0 c1 c2 c3 b2 B1 T1
    go_wp2_with fail
    refine (CTI.out _ (HWB.out _ T2)).mono ?_
    rintro e w2b ⟨x2, rfl, p2, b2b⟩
    have T2b := T2.trans (b2b.mono T2.size)
    have hs2b := b2b.size
    have O2b := ownH_later O2 b2b
    obtain ⟨xa2, xc2, hx2, hr2⟩ := rdI_own' p2
    rw [HL.out] at hx2
    subst hx2
    clear O2 b2b T2 p2
    go_wp2_with fail
    refine (CS.out _ u2 xa2 xc2 (ownH_rd O2b) hr2).mono ?_
    rintro e w3 ⟨sW, vfW, rfl, M3, I3, -, b3⟩
    have T3 := T2b.trans (b3.mono T2b.size)
    have hs3 := b3.size
    have R3 : Hid (RdH w3 sW.v R.1) := hm_rd M3
    obtain ⟨fW, fcW, hvW, hrW⟩ := rdI_own' I3
    rw [HN.out] at hvW
    subst hvW
    obtain ⟨V3, hV3⟩ : ∃ V, V = w3.alloc (.cells #[.slice sW.oa sW.os.length sW.oc, .slice sW.wa sW.wn sW.wc, .slice sW.ba sW.bn sW.bc, .slice sW.sa sW.sn sW.sc] 29) := ⟨_, rfl⟩
    have BV3 : Below w3.heap.size w3 V3 := by rw [hV3]; exact (Below.refl _ _).alloc (Nat.le_refl _) _
    have hV3s : V3.heap.size = w3.heap.size + 1 := by rw [hV3]; simp
    have HX6 : Hid (∀ X, Below V3.heap.size V3 X → Four X w3.heap.size (.slice sW.oa sW.os.length sW.oc) (.slice sW.wa sW.wn sW.wc) (.slice sW.ba sW.bn sW.bc) (.slice sW.sa sW.sn sW.sc)) := fun X hX => by
      have f : Four V3 w3.heap.size (.slice sW.oa sW.os.length sW.oc) (.slice sW.wa sW.wn sW.wc) (.slice sW.ba sW.bn sW.bc) (.slice sW.sa sW.sn sW.sc) := by rw [hV3]; exact Four.new w3 _ _ _ _
      exact f.later hX
    have HRW : Hid (∀ X, Below V3.heap.size V3 X → RdH X (.agg #[.slice sW.oa sW.os.length sW.oc, .slice sW.wa sW.wn sW.wc, .slice sW.ba sW.bn sW.bc, .slice sW.sa sW.sn sW.sc]) R.1) := fun X hX => rdH_later (rdH_later R3.out BV3) hX
    have HIW : Hid (∀ X, Below V3.heap.size V3 X → RdI X fW R.2) := fun X hX => rdI_later (rdI_later hrW BV3) hX
    have TV3 := T3.trans (BV3.mono T3.size)
    have HT3 : Hid (∀ X, Below V3.heap.size V3 X → Below W.heap.size W X) := fun X hX => TV3.trans (hX.mono TV3.size)
    obtain ⟨c0, c1, c2, c3⟩ := HK.out _ T3
    have hq3 : w.heap.size < w3.heap.size := by omega
    have hn3 : ¬ w.heap.size = w3.heap.size := by omega
    rw [hshv]
    clear O2b M3 I3 b3 T2b T3 BV3 R3 hr2 hrW
    go_wp2_with fail
    rw [← hV3]
    clear hV3 c0 c1 c2 c3
    refine (CT.out _ (HWB.out _ TV3)).mono ?_
    rintro e w4 ⟨u4, rfl, O4, b4⟩
    have hs4 := b4.size
    obtain ⟨s4, hus, K4, M4⟩ := HC.out _ _ _ O4
    have HR4 : Hid (∀ X, Below w4.heap.size w4 X → RdH X u4 H) := fun X hX => ownH_rd (ownH_later O4 hX)
    have HM4 : Hid (∀ q ∈ markL s4, V3.heap.size ≤ q.1.block) := M4
    have HK4 : Hid (CanH w4 s4) := K4
    subst hus
    obtain ⟨V4, hV4⟩ : ∃ V, V = w4.alloc (.cells #[.slice s4.oa s4.os.length s4.oc, .slice s4.wa s4.wn s4.wc, .slice s4.ba s4.bn s4.bc, .slice s4.sa s4.sn s4.sc] 29) := ⟨_, rfl⟩
    have BV4 : Below w4.heap.size w4 V4 := by rw [hV4]; exact (Below.refl _ _).alloc (Nat.le_refl _) _
    have hV4s : V4.heap.size = w4.heap.size + 1 := by rw [hV4]; simp
    have HX7 : Hid (∀ X, Below V4.heap.size V4 X → Four X w4.heap.size (.slice s4.oa s4.os.length s4.oc) (.slice s4.wa s4.wn s4.wc) (.slice s4.ba s4.bn s4.bc) (.slice s4.sa s4.sn s4.sc)) := fun X hX => by
      have f : Four V4 w4.heap.size (.slice s4.oa s4.os.length s4.oc) (.slice s4.wa s4.wn s4.wc) (.slice s4.ba s4.bn s4.bc) (.slice s4.sa s4.sn s4.sc) := by rw [hV4]; exact Four.new w4 _ _ _ _
      exact f.later hX
    have A4 : Below V3.heap.size V3 V4 := b4.trans (BV4.mono b4.size)
    have hv4 := hshv s4
    rw [hv4]
    rw [hv4] at HR4
    have TV4 := HT3.out _ A4
    clear O4 K4 M4 b4 HC CS
    go_wp2_with fail
    rw [← hV4]
    clear hV4
    refine (CTI.out _ (HWB.out _ TV4)).mono ?_
    rintro e w4b ⟨x4, rfl, p4, b4b⟩
    have hs4b := b4b.size
    have A4b := A4.trans (b4b.mono A4.size)
    have C4b : Below w4.heap.size w4 w4b := BV4.trans (b4b.mono BV4.size)
    obtain ⟨xa4, xc4, hx4, CX4, hxB⟩ := ownI_can p4
    rw [HL.out] at hx4
    have HR4i : Hid (∀ X, Below w4b.heap.size w4b X → RdI X xa4 ids) := fun X hX => by
      obtain ⟨xa', xc', e', hr'⟩ := rdI_own' (ownI_later p4 hX)
      rw [hx4, HL.out] at e'
      simp only [Value.slice.injEq] at e'
      rw [e'.1]; exact hr'
    have HCX : Hid (CanI w4b xa4 L) := by have h := CX4; rw [HL.out] at h; exact h
    have HXB : Hid (∀ x, xa4 = some x → V4.heap.size ≤ x.block ∧ x.block < w4b.heap.size) := fun x hx => ⟨hxB x hx, (ownI_lt p4 _ (by rw [hx4, hx]; rfl)).2⟩
    subst hx4
    have x7 := HX7.out _ b4b
    have e0 := x7.cell 0
    have e1 := x7.cell 1
    have e2 := x7.cell 2
    have e3 := x7.cell 3
    simp only [List.getElem?_toArray, List.getElem?_cons_zero, List.getElem?_cons_succ] at e0 e1 e2 e3
    have HX7b : Hid (∀ X, Below w4b.heap.size w4b X → Four X w4.heap.size (.slice s4.oa s4.os.length s4.oc) (.slice s4.wa s4.wn s4.wc) (.slice s4.ba s4.bn s4.bc) (.slice s4.sa s4.sn s4.sc)) := fun X hX => x7.later hX
    have HC4b : Hid (Below w4.heap.size w4 w4b) := C4b
    have HA4b : Hid (Below V3.heap.size V3 w4b) := A4b
    clear p4 b4b A4 CX4 hxB BV4 HX7 x7 TV4 C4b A4b
    go_wp2_with fail
    refine (CI.out _ _ xa4 xc4 (HR4.out _ HC4b.out) (HR4i.out _ (Below.refl _ _))).mono ?_
    rintro e w5 ⟨sG, vG, rfl, M5, I5, D5, b5⟩
    have hs5 := b5.size
    have HM5 : Hid (HM w5 w4b.heap.size sG R.1) := M5
    obtain ⟨ga, gc, hvG, CG5, hgB⟩ := ownI_can I5
    rw [HN.out] at hvG
    have HI5 : Hid (∀ X, Below w5.heap.size w5 X → ownI X w4b.heap.size (.slice ga N gc) R.2) := fun X hX => by rw [← hvG]; exact ownI_later I5 hX
    have HD5 : Hid (∀ g, (Value.slice ga N gc).ownBlock = some g → ¬ HasB sG g) := fun g hg => D5 g (by rw [hvG]; exact hg)
    have HGB : Hid (∀ x, ga = some x → w4b.heap.size ≤ x.block ∧ x.block < w5.heap.size) := fun x hx => ⟨hgB x hx, (ownI_lt I5 _ (by rw [hvG, hx]; rfl)).2⟩
    subst hvG
    obtain ⟨V5, hV5⟩ : ∃ V, V = w5.alloc (.cells #[.slice sG.oa sG.os.length sG.oc, .slice sG.wa sG.wn sG.wc, .slice sG.ba sG.bn sG.bc, .slice sG.sa sG.sn sG.sc] 29) := ⟨_, rfl⟩
    have BV5 : Below w5.heap.size w5 V5 := by rw [hV5]; exact (Below.refl _ _).alloc (Nat.le_refl _) _
    have hV5s : V5.heap.size = w5.heap.size + 1 := by rw [hV5]; simp
    have HX8 : Hid (Four V5 w5.heap.size (.slice sG.oa sG.os.length sG.oc) (.slice sG.wa sG.wn sG.wc) (.slice sG.ba sG.bn sG.bc) (.slice sG.sa sG.sn sG.sc)) := by rw [hV5]; exact Four.new w5 _ _ _ _
    have C5 : Below w4b.heap.size w4b V5 := b5.trans (BV5.mono b5.size)
    have A5 : Below V3.heap.size V3 V5 := HA4b.out.trans (C5.mono HA4b.out.size)
    have HM5V : Hid (HM V5 w4b.heap.size sG R.1) := hm_later M5 BV5
    have HI5V : Hid (∀ X, Below V5.heap.size V5 X → ownI X w4b.heap.size (.slice ga N gc) R.2) := fun X hX => HI5.out X (BV5.trans (hX.mono BV5.size))
    have x6 := HX6.out _ (HA4b.out.trans (b5.mono HA4b.out.size))
    have d0 := x6.cell 0
    have d1 := x6.cell 1
    have d2 := x6.cell 2
    have d3 := x6.cell 3
    simp only [List.getElem?_toArray, List.getElem?_cons_zero, List.getElem?_cons_succ] at d0 d1 d2 d3
    have hq5 : w3.heap.size < w5.heap.size := by omega
    have hn5 : ¬ w3.heap.size = w5.heap.size := by omega
    have hvG := hshv sG
    have RG : RdH V5 (.agg #[.slice sG.oa sG.os.length sG.oc, .slice sG.wa sG.wn sG.wc, .slice sG.ba sG.bn sG.bc, .slice sG.sa sG.sn sG.sc]) R.1 := hm_rd HM5V.out
    have HRG : Hid (RdH V5 (.agg #[.slice sG.oa sG.os.length sG.oc, .slice sG.wa sG.wn sG.wc, .slice sG.ba sG.bn sG.bc, .slice sG.sa sG.sn sG.sc]) R.1) := RG
    have HC5 : Hid (Below w4b.heap.size w4b V5) := C5
    have HA5 : Hid (Below V3.heap.size V3 V5) := A5
    have HC4 : Hid (Below w4.heap.size w4 V5) := HC4b.out.trans (C5.mono HC4b.out.size)
    rw [hvG]
    clear M5 I5 D5 b5 BV5 C5 A5 x6 RG TV3 e0 e1 e2 e3 CG5 hgB
    go_wp2_with fail
    rw [← hV5]
    clear hV5 d0 d1 d2 d3
    refine (CG.out _ _ _ HRG.out (HRW.out _ HA5.out)).mono ?_
    rintro e w6 ⟨rfl, b6⟩
    have hs6 := b6.size
    have A6 := HA5.out.trans (b6.mono HA5.out.size)
    go_wp2_with fail
    have hrdG : ∀ X, Below V5.heap.size V5 X → RdI X ga R.2 := fun X hX => by
      obtain ⟨a', c', e', hr'⟩ := rdI_own' (HI5V.out X hX)
      simp only [Value.slice.injEq] at e'
      rw [e'.1]; exact hr'
    have HRDG : Hid (∀ X, Below V5.heap.size V5 X → RdI X ga R.2) := hrdG
    clear hrdG
    refine (CIQ.out _ ga fW gc fcW (HRDG.out _ b6) (HIW.out _ A6)).mono ?_
    rintro e w6b ⟨rfl, b6b⟩
    have B6b : Below V5.heap.size V5 w6b := b6.trans (b6b.mono b6.size)
    have HB6 : Hid (Below V5.heap.size V5 w6b) := B6b
    have hs6b := B6b.size
    clear b6 b6b A6 hs6
    have HT6 : Hid (∀ X, Below w6b.heap.size w6b X → Below w.heap.size w X) := fun X hX => HWB.out _ (HT3.out _ (HA5.out.trans ((B6b.trans (hX.mono B6b.size)).mono HA5.out.size)))
    have HS : Hid (∀ X, Below w6b.heap.size w6b X → (X.cell? ⟨w.heap.size, 0, none⟩ = some (.slice a0 n0 k0) ∧ X.cell? ⟨w.heap.size, 1, none⟩ = some (.slice a1 n1 k1) ∧ X.cell? ⟨w.heap.size, 2, none⟩ = some (.slice a2 n2 k2) ∧ X.cell? ⟨w.heap.size, 3, none⟩ = some (.slice a3 n3 k3)) ∧
        X.cell? ⟨w4.heap.size, 0, none⟩ = some (.slice s4.oa s4.os.length s4.oc) ∧ X.cell? ⟨w4.heap.size, 1, none⟩ = some (.slice s4.wa s4.wn s4.wc) ∧ X.cell? ⟨w4.heap.size, 2, none⟩ = some (.slice s4.ba s4.bn s4.bc) ∧ X.cell? ⟨w4.heap.size, 3, none⟩ = some (.slice s4.sa s4.sn s4.sc)) := fun X hX => by
      have h7 := HX7b.out X (HC5.out.trans ((B6b.trans (hX.mono B6b.size)).mono HC5.out.size))
      exact ⟨HK.out X (HT3.out _ (HA5.out.trans ((B6b.trans (hX.mono B6b.size)).mono HA5.out.size))), h7.cell 0, h7.cell 1, h7.cell 2, h7.cell 3⟩
    have HR6 : Hid (∀ X, Below w6b.heap.size w6b X → RdH X _ H) := fun X hX => HR4.out X (HC4.out.trans ((B6b.trans (hX.mono B6b.size)).mono HC4.out.size))
    have HT : Hid (∀ X, Below w6b.heap.size w6b X → _) := fun X hX => CT.out X (HT6.out X hX)
    obtain ⟨⟨c0, c1, c2, c3⟩, e0, e1, e2, e3⟩ := HS.out w6b (Below.refl _ _)
    have D6 : Below w6b.heap.size w6b w6b.drew := (Below.refl _ _).drew
    clear B6b
    go_wp2_with fail
    go_region_held (fun X => (X.cell? ⟨w.heap.size, 0, none⟩ = some (.slice a0 n0 k0) ∧ X.cell? ⟨w.heap.size, 1, none⟩ = some (.slice a1 n1 k1) ∧ X.cell? ⟨w.heap.size, 2, none⟩ = some (.slice a2 n2 k2) ∧ X.cell? ⟨w.heap.size, 3, none⟩ = some (.slice a3 n3 k3)) ∧
        X.cell? ⟨w4.heap.size, 0, none⟩ = some (.slice s4.oa s4.os.length s4.oc) ∧ X.cell? ⟨w4.heap.size, 1, none⟩ = some (.slice s4.wa s4.wn s4.wc) ∧ X.cell? ⟨w4.heap.size, 2, none⟩ = some (.slice s4.ba s4.bn s4.bc) ∧ X.cell? ⟨w4.heap.size, 3, none⟩ = some (.slice s4.sa s4.sn s4.sc))
      (first | exact HS.out _ B9 | exact HS.out _ B8 | exact HS.out _ D6)
      (first
        | (go_at_call 20; refine (HT.out _ D6).mono ?_; rintro e w8 ⟨u8, rfl, O8, b8⟩; have B8 := D6.trans (b8.mono D6.size))
        | (go_at_call 22; refine (CE.out _ _ _ (HR6.out _ B8) (ownH_rd O8)).mono ?_; rintro e w9 ⟨rfl, b9⟩; have B9 := B8.trans (b9.mono B8.size)))
    all_goals
      clear c0 c1 c2 c3 e0 e1 e2 e3
      have B59 : Below V5.heap.size V5 w9 := HB6.out.trans (B9.mono HB6.out.size)
      have TT := HT6.out _ B9
      clear HR6 HT b8 O8 b9 B8 HS HT6
      go_wp2_with fail
      refine (CTI.out _ TT).mono ?_
      rintro e wA ⟨xA, rfl, pA, bA⟩
      obtain ⟨aA, cA, hxA, hrA⟩ := rdI_own' pA
      rw [HL.out] at hxA
      subst hxA
      have B5A : Below V5.heap.size V5 wA := B59.trans (bA.mono B59.size)
      clear pA bA B59 B9 TT
      go_wp2_with fail
      refine (CIX.out _ xa4 aA xc4 cA (HR4i.out _ (HC5.out.trans (B5A.mono HC5.out.size))) hrA).mono ?_
      rintro e wB ⟨rfl, bB⟩
      have B5B : Below V5.heap.size V5 wB := B5A.trans (bB.mono B5A.size)
      clear hrA B5A bB
      have hc4B : CanH wB s4 := canH_later HK4.out (HC4.out.trans (B5B.mono HC4.out.size))
      have CM : Hid (∀ _ : Unit, _) := fun (_ : Unit) => markHeap_st wB s4 hc4B
      rw [hv4] at CM
      obtain ⟨hk0, hk9⟩ := hK.out _ _ hc4B
      generalize (s4.k3 : Int) + (s4.sn : Int) = K at CM hk0 hk9
      have HLT : Hid (∀ q ∈ markL s4, V3.heap.size ≤ q.1.block ∧ q.1.block < w4.heap.size) := fun q hq => ⟨HM4.out q hq, (markL_lt HK4.out q hq).1⟩
      generalize markL s4 = L1 at CM HLT
      have x7 := HX7b.out _ (HC5.out.trans (B5B.mono HC5.out.size))
      have e0 := x7.cell 0
      have e1 := x7.cell 1
      have e2 := x7.cell 2
      have e3 := x7.cell 3
      simp only [List.getElem?_toArray, List.getElem?_cons_zero, List.getElem?_cons_succ] at e0 e1 e2 e3
      have HM9 : Hid (HM wB w4b.heap.size sG R.1) := hm_later HM5V.out B5B
      have HX9 : Hid (Four wB w5.heap.size (.slice sG.oa sG.os.length sG.oc) (.slice sG.wa sG.wn sG.wc) (.slice sG.ba sG.bn sG.bc) (.slice sG.sa sG.sn sG.sc)) := HX8.out.later B5B
      have HI9 : Hid (ownI wB w4b.heap.size (.slice ga N gc) R.2) := HI5V.out _ B5B
      have HCX9 : Hid (CanI wB xa4 L) := canI_later HCX.out (HC5.out.trans (B5B.mono HC5.out.size))
      have A9 : Below V3.heap.size V3 wB := HA5.out.trans (B5B.mono HA5.out.size)
      have hs9 := B5B.size
      clear x7 hc4B B5B D6
      go_wp2_with fail
      refine (CM.out ()).mono ?_
      rintro e w10 ⟨rfl, b10⟩
      have hss : (stores wB L1).heap.size = wB.heap.size := stores_size _ _
      have hs10 : wB.heap.size ≤ w10.heap.size := by rw [← hss]; exact b10.size
      have N10 : Below V3.heap.size wB w10 := (stores_below L1 (fun q hq => (HLT.out q hq).1) wB (Below.refl _ _)).trans (b10.mono (by omega))
      have A10 : Below V3.heap.size V3 w10 := A9.trans N10
      have KB : KeepB V4.heap.size wB w10 := ⟨hs10, fun g hg hl => by
        rw [b10.block g hl, stores_block L1 g (fun q hq e => by have := (HLT.out q hq).2; omega)]⟩
      have HCX10 : Hid (CanI w10 xa4 L) := canI_keepB HCX9.out KB (fun _ x hx => (HXB.out x hx).1)
      have HKB : Hid (KeepB V4.heap.size wB w10) := KB
      clear hss b10 CM N10 A9 e0 e1 e2 e3 KB HLT HCX9
      -- the ids are marked
      go_wp2_with fail
      refine (markIntS_st w10 xa4 L xc4 K HCX10.out (by omega) hk0 hk9).mono ?_
      rintro e w10b ⟨rfl, hw10b⟩
      have HLI : Hid (∀ q ∈ mkI xa4 K L, V4.heap.size ≤ q.1.block ∧ q.1.block < w4b.heap.size) := fun q hq => by
        obtain ⟨_, x, hx, e⟩ := mkI_block _ _ _ _ hq
        rw [e]; exact HXB.out x hx
      have hs10b : w10b.heap.size = w10.heap.size := by rw [hw10b, stores_size]
      have A10b : Below V3.heap.size V3 w10b := by rw [hw10b]; exact stores_below _ (fun q hq => by have := (HLI.out q hq).1; omega) w10 A10
      have KB2 : KeepB w4b.heap.size wB w10b := ⟨by omega, fun g hg hl => by
        rw [hw10b, stores_block _ g (fun q hq e => by have := (HLI.out q hq).2; omega)]
        exact HKB.out.2 g (by omega) hl⟩
      have HM10 : Hid (HM w10b w4b.heap.size sG R.1) := hm_keepB HM9.out KB2
      have HX10 : Hid (Four w10b w5.heap.size (.slice sG.oa sG.os.length sG.oc) (.slice sG.wa sG.wn sG.wc) (.slice sG.ba sG.bn sG.bc) (.slice sG.sa sG.sn sG.sc)) := HX9.out.same (KB2.2 w5.heap.size (by omega) (by omega))
      have HI10 : Hid (ownI w10b w4b.heap.size (.slice ga N gc) R.2) := ownI_same HI9.out (fun g hg => KB2.2 g (ownI_lt HI9.out g hg).1 (ownI_lt HI9.out g hg).2)
      have hkL : (0 : Int) ≤ K + (L : Int) := by omega
      have hkb : K + (L : Int) ≤ 9223372036854775807 := by omega
      generalize K + (L : Int) = KL at hkL hkb ⊢
      have x6 := HX6.out _ A10b
      have d0 := x6.cell 0
      have d1 := x6.cell 1
      have d2 := x6.cell 2
      have d3 := x6.cell 3
      have x8 := HX10.out
      have g0 := x8.cell 0
      have g1 := x8.cell 1
      have g2 := x8.cell 2
      have g3 := x8.cell 3
      simp only [List.getElem?_toArray, List.getElem?_cons_zero, List.getElem?_cons_succ] at d0 d1 d2 d3 g0 g1 g2 g3
      have HRG2 : Hid (RdH w10b (.agg #[.slice sG.oa sG.os.length sG.oc, .slice sG.wa sG.wn sG.wc, .slice sG.ba sG.bn sG.bc, .slice sG.sa sG.sn sG.sc]) R.1) := hm_rd HM10.out
      clear hw10b A10 KB2 x6 x8 HLI HCX10 HKB HX9 HM9 HI9
      go_wp2_with fail
      refine (CG.out _ _ _ HRG2.out (HRW.out _ A10b)).mono ?_
      rintro e w11 ⟨rfl, b11⟩
      have A11 := A10b.trans (b11.mono A10b.size)
      have HI11 : Hid (ownI w11 w4b.heap.size (.slice ga N gc) R.2) := ownI_later HI10.out b11
      have hrd11 : RdI w11 ga R.2 := by
        obtain ⟨a', c', e', hr'⟩ := rdI_own' HI11.out
        simp only [Value.slice.injEq] at e'
        rw [e'.1]; exact hr'
      have HRD11 : Hid (RdI w11 ga R.2) := hrd11
      have HM11 : Hid (HM w11 w4b.heap.size sG R.1) := hm_later HM10.out b11
      have HX11 : Hid (Four w11 w5.heap.size (.slice sG.oa sG.os.length sG.oc) (.slice sG.wa sG.wn sG.wc) (.slice sG.ba sG.bn sG.bc) (.slice sG.sa sG.sn sG.sc)) := HX10.out.later b11
      have hs11 := b11.size
      clear d0 d1 d2 d3 g0 g1 g2 g3 b11 A10b HM10 HX10 HI10 HRG2 hrd11
      go_wp2_with fail
      refine (CIQ.out _ ga fW gc fcW HRD11.out (HIW.out _ A11)).mono ?_
      rintro e w12 ⟨rfl, b12⟩
      have A12 := A11.trans (b12.mono A11.size)
      have HI12 : Hid (ownI w12 w4b.heap.size (.slice ga N gc) R.2) := ownI_later HI11.out b12
      have M12 : HM w12 w4b.heap.size sG R.1 := hm_later HM11.out b12
      have X12 := HX11.out.later b12
      have MM : MemH w12 w4b.heap.size sG R.1 := hm_mem M12 HGL.out.1 HGL.out.2.1 HGL.out.2.2.1 HGL.out.2.2.2.1 HGL.out.2.2.2.2
      have CM : Hid (∀ _ : Unit, _) := fun (_ : Unit) => markHeap_st w12 sG MM.can
      obtain ⟨hk1, hk8⟩ := hK.out _ _ MM.can
      have HLT : Hid (∀ q ∈ markL sG, w4b.heap.size ≤ q.1.block ∧ q.1.block ≠ w5.heap.size ∧ HasB sG q.1.block) := fun q hq => ⟨lo_mark MM.lo q hq, fun e => by
        have hq2 := (hm_bl HM5.out (mark_has q hq)).2
        omega, mark_has q hq⟩
      have HH : Hid (∀ X, Below w12.heap.size (stores w12 (markL sG)) X → HeldH X sG) := fun X hX => memH_held MM hX
      have CH : Hid (∀ X, HeldH X sG → _) := fun X hX => heldHeap_at X sG hX ⟨MM.can.lo, MM.can.lf, MM.can.lw, MM.can.lb, MM.can.ls⟩
      rw [hvG] at CM CH
      generalize (sG.k3 : Int) + (sG.sn : Int) = K2 at CM hk1 hk8 CH
      generalize markL sG = L2 at CM HLT HH
      have hs12 := b12.size
      have g0 := X12.cell 0
      have g1 := X12.cell 1
      have g2 := X12.cell 2
      have g3 := X12.cell 3
      simp only [List.getElem?_toArray, List.getElem?_cons_zero, List.getElem?_cons_succ] at g0 g1 g2 g3
      have HX12 : Hid (Four w12 w5.heap.size (.slice sG.oa sG.os.length sG.oc) (.slice sG.wa sG.wn sG.wc) (.slice sG.ba sG.bn sG.bc) (.slice sG.sa sG.sn sG.sc)) := X12
      clear M12 X12 MM b12 A11 HX11 HM11 HI11 HRD11
      go_wp2_with fail
      refine (CM.out ()).mono ?_
      rintro e w13 ⟨rfl, b13⟩
      have hss : (stores w12 L2).heap.size = w12.heap.size := stores_size _ _
      have hs13 : w12.heap.size ≤ w13.heap.size := by rw [← hss]; exact b13.size
      have N13 : Below w4b.heap.size w12 w13 := (stores_below L2 (fun q hq => (HLT.out q hq).1) w12 (Below.refl _ _)).trans (b13.mono (by omega))
      have A13 : Below V3.heap.size V3 w13 := A12.trans (N13.mono HA4b.out.size)
      have HH13 : Hid (HeldH w13 sG) := HH.out _ b13
      have HX13 : Hid (Four w13 w5.heap.size (.slice sG.oa sG.os.length sG.oc) (.slice sG.wa sG.wn sG.wc) (.slice sG.ba sG.bn sG.bc) (.slice sG.sa sG.sn sG.sc)) := HX12.out.same (by
        rw [b13.block _ (by omega), stores_block L2 _ (fun q hq => (HLT.out q hq).2.1)])
      have HI13 : Hid (ownI w13 w4b.heap.size (.slice ga N gc) R.2) := ownI_same HI12.out (fun g hg => by
        rw [b13.block g (ownI_lt HI12.out g hg).2, stores_block L2 g (fun q hq e => HD5.out g hg (by rw [← e]; exact (HLT.out q hq).2.2))])
      have HCG : Hid (CanI w13 ga N) := by
        obtain ⟨a', c', e', hc', _⟩ := ownI_can HI13.out
        simp only [Value.slice.injEq] at e'
        show CanI w13 ga N
        rw [e'.1, ← HN.out]; exact hc'
      clear hss b13 CM N13 A12 g0 g1 g2 g3 HH HLT HX12 HI12
      -- the freed ids are marked
      go_wp2_with fail
      refine (markIntS_st w13 ga N gc K2 HCG.out (by omega) hk1 hk8).mono ?_
      rintro e w14 ⟨rfl, hw14⟩
      have HLG : Hid (∀ q ∈ mkI ga K2 N, w4b.heap.size ≤ q.1.block ∧ q.1.block < w5.heap.size ∧ ¬ HasB sG q.1.block) := fun q hq => by
        obtain ⟨_, x, hx, e⟩ := mkI_block _ _ _ _ hq
        rw [e]; exact ⟨(HGB.out x hx).1, (HGB.out x hx).2, HD5.out _ (by rw [hx]; rfl)⟩
      have hs14 : w14.heap.size = w13.heap.size := by rw [hw14, stores_size]
      have A14 : Below V3.heap.size V3 w14 := by rw [hw14]; exact stores_below _ (fun q hq => by have h1 := (HLG.out q hq).1; have h2 := HA4b.out.size; omega) w13 A13
      have HH14 : Hid (HeldH w14 sG) := by show HeldH w14 sG; rw [hw14]; exact heldH_far _ HH13.out (fun q hq => (HLG.out q hq).2.2)
      have HX14 : Hid (∀ X, Below w14.heap.size w14 X → Four X w5.heap.size (.slice sG.oa sG.os.length sG.oc) (.slice sG.wa sG.wn sG.wc) (.slice sG.ba sG.bn sG.bc) (.slice sG.sa sG.sn sG.sc)) := fun X hX => by
        have h1 : Four w14 w5.heap.size (.slice sG.oa sG.os.length sG.oc) (.slice sG.wa sG.wn sG.wc) (.slice sG.ba sG.bn sG.bc) (.slice sG.sa sG.sn sG.sc) := HX13.out.same (by rw [hw14, stores_block _ _ (fun q hq e => by have := (HLG.out q hq).2.1; omega)])
        exact h1.later hX
      have HGI : Hid (∀ X, Below w14.heap.size w14 X → ∀ p ∈ mkI ga K2 N, X.cell? p.1 = some p.2) := fun X hX p hp => by
        have h1 := heldI_of (k := K2) HCG.out p hp
        rw [← hw14] at h1
        exact (hX.cell (World.block_lt_of_cell? w14 _ h1)).trans h1
      have HGA : Hid (0 < N → ∃ g off, ga = some ⟨g, off, none⟩) := fun hn => by obtain ⟨g, off, e, _⟩ := HCG.out 0 hn; exact ⟨g, off, e⟩
      have CHI : Hid (∀ X, Below w14.heap.size w14 X → _) := fun X hX => heldIntS_at X ga N gc K2 (HGI.out X hX) HGA.out (by omega) hk1 hk8
      have hkN : (0 : Int) ≤ K2 + (N : Int) := by omega
      generalize K2 + (N : Int) = KN at hkN CHI ⊢
      have x8 := HX14.out _ (Below.refl _ _)
      have g0 := x8.cell 0
      have g1 := x8.cell 1
      have g2 := x8.cell 2
      have g3 := x8.cell 3
      simp only [List.getElem?_toArray, List.getElem?_cons_zero, List.getElem?_cons_succ] at g0 g1 g2 g3
      clear hw14 A13 x8 HX13 HI13 HCG HLG HGI HGA HH13
      go_wp2_with fail
      refine (CH.out _ HH14.out).mono ?_
      rintro e w15 ⟨rfl, b15⟩
      have A15 := A14.trans (b15.mono A14.size)
      have HB15 : Hid (Below w14.heap.size w14 w15) := b15
      clear g0 g1 g2 g3 b15 A14
      go_wp2_with fail
      refine (CHI.out _ HB15.out).mono ?_
      rintro e w15b ⟨rfl, hw15b⟩
      subst hw15b
      have T15 := HT3.out _ A15
      obtain ⟨c0, c1, c2, c3⟩ := HK.out _ T15
      go_wp2_with fail
      refine (CT.out _ (HWB.out _ T15)).mono ?_
      rintro e w16 ⟨u16, rfl, O16, b16⟩
      have A16 := A15.trans (b16.mono A15.size)
      have HB16 : Hid (Below w14.heap.size w14 w16) := HB15.out.trans (b16.mono HB15.out.size)
      clear c0 c1 c2 c3 b16 A15 T15
      go_wp2_with fail
      refine (CTI.out _ (HWB.out _ (HT3.out _ A16))).mono ?_
      rintro e w16b ⟨x16, rfl, p16, b16b⟩
      have A16b := A16.trans (b16b.mono A16.size)
      have HB16b : Hid (Below w14.heap.size w14 w16b) := HB16.out.trans (b16b.mono HB16.out.size)
      have O16b := ownH_later O16 b16b
      obtain ⟨xa16, xc16, hx16, hr16⟩ := rdI_own' p16
      rw [HL.out] at hx16
      subst hx16
      clear O16 b16b A16 p16
      go_wp2_with fail
      refine (CI.out _ u16 xa16 xc16 (ownH_rd O16b) hr16).mono ?_
      rintro e w17 ⟨s17, v17, rfl, M17, I17, -, b17⟩
      have A17 := A16b.trans (b17.mono A16b.size)
      have HB17 : Hid (Below w14.heap.size w14 w17) := HB16b.out.trans (b17.mono HB16b.out.size)
      obtain ⟨f17, c17, hv17, hr17⟩ := rdI_own' I17
      rw [HN.out] at hv17
      subst hv17
      have R17 := hm_rd M17
      rw [hshv] at R17 ⊢
      obtain ⟨Y, hY⟩ : ∃ Y, Y = w17.alloc (.cells #[.slice s17.oa s17.os.length s17.oc, .slice s17.wa s17.wn s17.wc, .slice s17.ba s17.bn s17.bc, .slice s17.sa s17.sn s17.sc] 29) := ⟨_, rfl⟩
      have BY : Below w17.heap.size w17 Y := by rw [hY]; exact (Below.refl _ _).alloc (Nat.le_refl _) _
      have AY := A17.trans (BY.mono A17.size)
      have HBY : Hid (Below w14.heap.size w14 Y) := HB17.out.trans (BY.mono HB17.out.size)
      have HRY : Hid (RdH Y (.agg #[.slice s17.oa s17.os.length s17.oc, .slice s17.wa s17.wn s17.wc, .slice s17.ba s17.bn s17.bc, .slice s17.sa s17.sn s17.sc]) R.1) := rdH_later R17 BY
      have HIY : Hid (∀ X, Below Y.heap.size Y X → RdI X f17 R.2) := fun X hX => rdI_later (rdI_later hr17 BY) hX
      have x6 := HX6.out _ A17
      have d0 := x6.cell 0
      have d1 := x6.cell 1
      have d2 := x6.cell 2
      have d3 := x6.cell 3
      simp only [List.getElem?_toArray, List.getElem?_cons_zero, List.getElem?_cons_succ] at d0 d1 d2 d3
      have hq17 : w3.heap.size < w17.heap.size := by have := A17.size; omega
      have hn17 : ¬ w3.heap.size = w17.heap.size := by omega
      clear O16b M17 I17 b17 A16b R17 BY x6 HB16 HB16b HB17 hr16 hr17
      go_wp2_with fail
      rw [← hY]
      clear hY d0 d1 d2 d3
      refine (CG.out _ _ _ HRY.out (HRW.out _ AY)).mono ?_
      rintro e w18 ⟨rfl, b18⟩
      have A18 := AY.trans (b18.mono AY.size)
      have Z18 := HBY.out.trans (b18.mono HBY.out.size)
      have HI18 : Hid (RdI w18 f17 R.2) := HIY.out _ b18
      clear b18 AY
      go_wp2_with fail
      refine (CIQ.out _ f17 fW c17 fcW HI18.out (HIW.out _ A18)).mono ?_
      rintro e w19 ⟨rfl, b19⟩
      have A19 := A18.trans (b19.mono A18.size)
      have Z19 := Z18.trans (b19.mono Z18.size)
      have HZ19 : Hid (Below w14.heap.size w14 w19) := Z19
      have x8 := HX14.out _ Z19
      have g0 := x8.cell 0
      have g1 := x8.cell 1
      have g2 := x8.cell 2
      have g3 := x8.cell 3
      simp only [List.getElem?_toArray, List.getElem?_cons_zero, List.getElem?_cons_succ] at g0 g1 g2 g3
      clear b19 x8 A18 Z18 Z19
      go_wp2_with fail
      refine (CH.out _ (heldH_later HH14.out HZ19.out)).mono ?_
      rintro e w20 ⟨rfl, b20⟩
      have Z20 := HZ19.out.trans (b20.mono HZ19.out.size)
      have HZ20 : Hid (Below w14.heap.size w14 w20) := Z20
      have T20 := HWB.out _ (HT3.out _ (A19.trans (b20.mono A19.size)))
      clear b20 Z20 A19 g0 g1 g2 g3
      go_wp2_with fail
      refine (CHI.out _ HZ20.out).mono ?_
      rintro e w21 ⟨rfl, hw21⟩
      subst hw21
      go_wp2
      go_ret
      exact ⟨rfl, T20⟩

end Go.Proofs.Ytohhabbhdpohcaa
