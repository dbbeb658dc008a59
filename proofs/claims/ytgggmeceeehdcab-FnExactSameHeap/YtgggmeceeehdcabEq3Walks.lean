/- What slices.EqualFunc over impl.sameObj and impl.SameHeap answer. -/
import Derived.Test.YtgggmeceeehdcabEq2Walks
namespace Go.Proofs.Ytgggmeceeehdcab
open Go.RowKit
set_option linter.unusedVariables false

theorem bool_is (p : Prop) : ∃ b : Bool, (b = true ↔ p) := by
  by_cases h : p
  · exact ⟨true, by simp [h]⟩
  · exact ⟨false, by simp [h]⟩
theorem bool_isnt {p : Prop} {b : Bool} (h : b = true ↔ p) (hn : ¬ p) : b = false := by
  cases b with
  | false => rfl
  | true => exact absurd (h.1 rfl) hn

set_option maxHeartbeats 1000000 in
theorem eqObjF_calls (w : World) (a c : Option Addr) (cap cap2 : Nat) (zs ys : List ObjD) (q : Bool) (h1 : RdO w a zs) (h2 : RdO w c ys) (hz : zs.length ≤ 1048576) (hy : ys.length ≤ 1048576) (f1 : ∀ z ∈ zs, z.field.length ≤ 1048576) (f2 : ∀ z ∈ ys, z.field.length ≤ 1048576) (hq : q = true ↔ zs = ys) :
    Calls Try.prog 26 #[.slice a zs.length cap, .slice c ys.length cap2, .func (.func 27) #[] #[]] w fun e w' => e = .returned (.bool q) ∧ Below w.heap.size w w' := by
  have HQN : Hid (zs ≠ ys → q = false) := fun hn => by cases q with | false => rfl | true => exact absurd (hq.1 rfl) hn
  have HQ : Hid (zs = ys → q = true) := hq.2
  clear hq
  by_cases hl : zs.length = ys.length
  · have HA : Hid (∀ X, Below w.heap.size w X → RdO X a zs) := fun X hX => rdO_later h1 hX
    have HC : Hid (∀ X, Below w.heap.size w X → RdO X c ys) := fun X hX => rdO_later h2 hX
    have HN : Hid (∀ (j : Nat) (h1 : j < zs.length) (h2 : j < ys.length), zs.take j = ys.take j → _) := fun j h1 h2 h => take_next zs ys j h1 h2 h
    have HT : Hid (zs = ys → ∀ j, zs.take j = ys.take j) := fun h j => take_of_eq h j
    have HF : Hid (zs.take zs.length = ys.take zs.length → zs = ys) := eq_of_takes hl
    have HF1 : Hid (∀ z ∈ zs, z.field.length ≤ 1048576) := f1
    have HF2 : Hid (∀ z ∈ ys, z.field.length ≤ 1048576) := f2
    obtain ⟨n, hnn⟩ : ∃ n, zs.length = n := ⟨_, rfl⟩
    have Hn : Hid (zs.length = n) := hnn
    have Hm : Hid (ys.length = n) := by show _ = _; omega
    rw [hnn] at hz HF ⊢
    rw [Hm.out]
    clear h1 h2 hnn hl hy f1 f2
    go_enter Try.func26, Try.ntmps26
    go_wp2
    go_loopw [17] (fun i wr => ∃ j : Nat, j ≤ n ∧ i = .int .i64 j ∧ Hid (zs.take j = ys.take j) ∧ Below w.heap.size w wr) (fun i _ => n - (intOf i).toNat)
    case atStart => exact ⟨0, by omega, rfl, rfl, Below.refl _ _⟩
    case round =>
      obtain ⟨j, hj, rfl, HE, hb⟩ := hrel
      by_cases hlt : j < n
      · have hj2 : j < zs.length := by have := Hn.out; omega
        have hj3 : j < ys.length := by have := Hm.out; omega
        obtain ⟨g, off, fa, fc, rfl, hg, ho1, hr1⟩ := HA.out _ hb j hj2
        obtain ⟨g2, off2, fa2, fc2, rfl, hg2, ho2, hr2⟩ := HC.out _ hb j hj3
        have HN2 : Hid (_ ↔ _) := HN.out j hj2 hj3 HE.out
        have hl1 := HF1.out _ (List.getElem_mem hj2)
        have hl2 := HF2.out _ (List.getElem_mem hj3)
        obtain ⟨o1, e1⟩ : ∃ o, zs[j] = o := ⟨_, rfl⟩
        obtain ⟨o2, e2⟩ : ∃ o, ys[j] = o := ⟨_, rfl⟩
        rw [e1] at ho1 hr1 HN2 hl1
        rw [e2] at ho2 hr2 HN2 hl2
        clear e1 e2
        obtain ⟨qs, hqs⟩ := bool_is (o1 = o2)
        have CS : Hid (∀ X, Below wr.heap.size wr X → _) := fun X hX => sameObj_calls o1 o2 fa fa2 fc fc2 X (rdI_later hr1 hX) (rdI_later hr2 hX) hl1 hl2 qs hqs
        have BB : Hid (Below wr.heap.size wr ((wr.alloc (.cells #[.bool o1.live, .int .i64 o1.gen, .int .i64 o1.site, .int .i64 o1.holds, .int .i64 o1.roots, .int .i64 o1.count, .slice fa o1.field.length fc, .bool o1.purple] 43)).alloc (.cells #[.bool o2.live, .int .i64 o2.gen, .int .i64 o2.site, .int .i64 o2.holds, .int .i64 o2.roots, .int .i64 o2.count, .slice fa2 o2.field.length fc2, .bool o2.purple] 43))) := ((Below.refl _ _).alloc (Nat.le_refl _) _).alloc (by simp) _
        unfold objV at CS
        have HZE : Hid (o1 = o2 → zs.take (j + 1) = ys.take (j + 1)) := HN2.out.2
        have HZN : Hid (o1 ≠ o2 → q = false) := fun hn => HQN.out (fun e => hn (HN2.out.1 (HT.out e (j + 1))))
        have h21 : ¬ g2 = wr.heap.size := by omega
        have h22 : g2 < wr.heap.size := hg2
        obtain ⟨c0, c1, c2, c3, c4, c5, c6, c7⟩ := ho1
        obtain ⟨d0, d1, d2, d3, d4, d5, d6, d7⟩ := ho2
        clear hr1 hr2 hg hg2
        by_cases he : o1 = o2
        · have HFIN : Hid _ := HZE.out he
          rw [hqs.2 he] at CS
          clear HZE HZN he hqs
          go_wp2_with fail
          refine (CS.out _ BB.out).mono ?_
          rintro e w1 ⟨rfl, b1⟩
          have B1 := (hb.trans (BB.out.mono hb.size)).trans (b1.mono (hb.trans (BB.out.mono hb.size)).size)
          clear b1
          go_wp2
          go_roundw
          case rel => exact ⟨j + 1, by omega, by go_num, HFIN, B1⟩
          case measure => simp [intOf]; omega
        · have HFIN : Hid _ := HZN.out he
          rw [bool_isnt hqs he] at CS
          clear HZE HZN he hqs
          go_wp2_with fail
          refine (CS.out _ BB.out).mono ?_
          rintro e w1 ⟨rfl, b1⟩
          have B1 := (hb.trans (BB.out.mono hb.size)).trans (b1.mono (hb.trans (BB.out.mono hb.size)).size)
          clear b1
          go_wp2
          go_ret
          exact ⟨ret_q HFIN.out.symm, B1⟩
      · obtain rfl : j = n := by omega
        have HR : Hid (q = true) := HQ.out (HF.out HE.out)
        go_wp2
        go_ret
        exact ⟨ret_q HR.out.symm, hb⟩
  · have hd := HQN.out (fun e => hl (by rw [e]))
    subst hd
    have hq : ¬ ((zs.length : Int) = (ys.length : Int)) := by omega
    clear h1 h2
    go_enter Try.func26, Try.ntmps26
    go_wp2
    go_ret
    exact ⟨rfl, Below.refl _ _⟩

set_option maxHeartbeats 1000000 in
theorem iSameHeap_calls (v u : Value) (A B : HeapD) (w : World) (h1 : RdH w v A) (h2 : RdH w u B) (hs1 : SmallH A) (hs2 : SmallH B) (b : Bool) (hb : b = true ↔ A = B) :
    Calls Try.prog 11 #[v, u] w fun e w' => e = .returned (.bool b) ∧ Below w.heap.size w w' := by
  obtain ⟨ao, co, aw, cw, ab, cb, sa, sc, rfl, ro, rwk, ri, rs⟩ := h1
  obtain ⟨ao2, co2, aw2, cw2, ab2, cb2, sa2, sc2, rfl, ro2, rwk2, ri2, rs2⟩ := h2
  obtain ⟨aO, aW, aB, aS⟩ := A
  obtain ⟨bO, bW, bB, bS⟩ := B
  simp only at *
  rw [HeapD.mk.injEq] at hb
  have HNO : Hid (¬ (aO = bO ∧ aW = bW ∧ aB = bB ∧ aS = bS) → b = false) := fun hn => by cases b with | false => rfl | true => exact absurd (hb.1 rfl) hn
  have HY : Hid ((aO = bO ∧ aW = bW ∧ aB = bB ∧ aS = bS) → b = true) := hb.2
  obtain ⟨V, hV⟩ : ∃ V, V = (w.alloc (.cells #[.slice ao aO.length co, .slice aw aW.length cw, .slice ab aB.length cb, .slice sa aS.length sc] 33)).alloc (.cells #[.slice ao2 bO.length co2, .slice aw2 bW.length cw2, .slice ab2 bB.length cb2, .slice sa2 bS.length sc2] 33) := ⟨_, rfl⟩
  have BV : Below w.heap.size w V := by rw [hV]; exact ((Below.refl _ _).alloc (Nat.le_refl _) _).alloc (by simp) _
  have HK : Hid (∀ X, Below V.heap.size V X → (X.cell? ⟨w.heap.size, 0, none⟩ = some (.slice ao aO.length co) ∧ X.cell? ⟨w.heap.size, 1, none⟩ = some (.slice aw aW.length cw) ∧ X.cell? ⟨w.heap.size, 2, none⟩ = some (.slice ab aB.length cb) ∧ X.cell? ⟨w.heap.size, 3, none⟩ = some (.slice sa aS.length sc)) ∧
      (X.cell? ⟨w.heap.size + 1, 0, none⟩ = some (.slice ao2 bO.length co2) ∧ X.cell? ⟨w.heap.size + 1, 1, none⟩ = some (.slice aw2 bW.length cw2) ∧ X.cell? ⟨w.heap.size + 1, 2, none⟩ = some (.slice ab2 bB.length cb2) ∧ X.cell? ⟨w.heap.size + 1, 3, none⟩ = some (.slice sa2 bS.length sc2))) := fun X hX => by
    obtain ⟨A1, hA1⟩ : ∃ A1, A1 = w.alloc (.cells #[.slice ao aO.length co, .slice aw aW.length cw, .slice ab aB.length cb, .slice sa aS.length sc] 33) := ⟨_, rfl⟩
    rw [← hA1] at hV
    have s1 : A1.heap.size = w.heap.size + 1 := by rw [hA1]; simp
    have s2 : V.heap.size = A1.heap.size + 1 := by rw [hV]; simp
    have b1 : Below A1.heap.size A1 V := by rw [hV]; exact (Below.refl _ _).alloc (Nat.le_refl _) _
    refine ⟨four_kept w 33 _ _ _ _ X (by have h := b1.trans (hX.mono (by omega)); rw [s1, hA1] at h; exact h), ?_⟩
    have h := four_kept A1 33 (.slice ao2 bO.length co2) (.slice aw2 bW.length cw2) (.slice ab2 bB.length cb2) (.slice sa2 bS.length sc2) X (by rw [s2, hV] at hX; exact hX)
    rw [s1] at h
    exact h
  obtain ⟨qo, hqo⟩ := bool_is (aO = bO)
  obtain ⟨qw, hqw⟩ := bool_is (aW = bW)
  have CO : Hid (∀ X, Below V.heap.size V X → _) := fun X hX => eqObjF_calls X ao ao2 co co2 aO bO qo (rdO_later (rdO_later ro BV) hX) (rdO_later (rdO_later ro2 BV) hX) hs1.objs hs2.objs hs1.fields hs2.fields hqo
  have CW : Hid (∀ X, Below V.heap.size V X → _) := fun X hX => eqWk_calls X aw aw2 cw cw2 aW bW qw (rdW_later (rdW_later rwk BV) hX) (rdW_later (rdW_later rwk2 BV) hX) hs1.weaks hs2.weaks hqw
  have CB : Hid (∀ X, Below V.heap.size V X → _) := fun X hX => eqInt_calls X ab ab2 cb cb2 aB bB (rdI_later (rdI_later ri BV) hX) (rdI_later (rdI_later ri2 BV) hX) (Nat.le_trans hs1.buffer (by omega)) (Nat.le_trans hs2.buffer (by omega))
  have CT : Hid (∀ X, Below V.heap.size V X → _) := fun X hX => eqStr_calls X sa sa2 sc sc2 aS bS (rdS_later (rdS_later rs BV) hX) (rdS_later (rdS_later rs2 BV) hX) (Nat.le_trans hs1.sites (by omega)) (Nat.le_trans hs2.sites (by omega))
  clear hb ro rwk ri rs ro2 rwk2 ri2 rs2 hs1 hs2
  by_cases e1 : aO = bO
  rotate_left
  · have hb0 := HNO.out (fun h => e1 h.1)
    subst hb0
    rw [bool_isnt hqo e1] at CO
    clear hqo hqw
    go_enter Try.func11, Try.ntmps11
    go_wp2_with fail
    rw [← hV]
    clear hV
    refine (CO.out _ (Below.refl _ _)).mono ?_
    rintro e w1 ⟨rfl, b1⟩
    go_wp2
    go_ret
    exact ⟨rfl, BV.trans (b1.mono BV.size)⟩
  rw [hqo.2 e1] at CO
  clear hqo
  have E1 : Hid (aO = bO) := e1
  clear e1
  by_cases e2 : aW = bW
  rotate_left
  · have hb0 := HNO.out (fun h => e2 h.2.1)
    subst hb0
    rw [bool_isnt hqw e2] at CW
    clear hqw
    go_enter Try.func11, Try.ntmps11
    go_wp2_with fail
    rw [← hV]
    clear hV
    refine (CO.out _ (Below.refl _ _)).mono ?_
    rintro e w1 ⟨rfl, b1⟩
    obtain ⟨⟨k0, k1, k2, k3⟩, m0, m1, m2, m3⟩ := HK.out _ b1
    go_wp2_with fail
    refine (CW.out _ b1).mono ?_
    rintro e w2 ⟨rfl, b2⟩
    have B2 := b1.trans (b2.mono b1.size)
    go_wp2
    go_ret
    exact ⟨rfl, BV.trans (B2.mono BV.size)⟩
  rw [hqw.2 e2] at CW
  clear hqw
  have E2 : Hid (aW = bW) := e2
  clear e2
  by_cases e3 : aB = bB
  rotate_left
  · have hb0 := HNO.out (fun h => e3 h.2.2.1)
    subst hb0
    rw [decide_eq_false e3] at CB
    go_enter Try.func11, Try.ntmps11
    go_wp2_with fail
    rw [← hV]
    clear hV
    refine (CO.out _ (Below.refl _ _)).mono ?_
    rintro e w1 ⟨rfl, b1⟩
    obtain ⟨⟨k0, k1, k2, k3⟩, m0, m1, m2, m3⟩ := HK.out _ b1
    go_wp2_with fail
    refine (CW.out _ b1).mono ?_
    rintro e w2 ⟨rfl, b2⟩
    have B2 := b1.trans (b2.mono b1.size)
    clear k0 k1 k2 k3 m0 m1 m2 m3
    obtain ⟨⟨k0, k1, k2, k3⟩, m0, m1, m2, m3⟩ := HK.out _ B2
    go_wp2_with fail
    refine (CB.out _ B2).mono ?_
    rintro e w3 ⟨rfl, b3⟩
    have B3 := B2.trans (b3.mono B2.size)
    go_wp2
    go_ret
    exact ⟨rfl, BV.trans (B3.mono BV.size)⟩
  rw [decide_eq_true e3] at CB
  have E3 : Hid (aB = bB) := e3
  clear e3
  have HBE : Hid (b = decide (aS = bS)) := by
    show _ = _
    by_cases e4 : aS = bS
    · rw [decide_eq_true e4]; exact HY.out ⟨E1.out, E2.out, E3.out, e4⟩
    · rw [decide_eq_false e4]; exact HNO.out (fun h => e4 h.2.2.2)
  rw [HBE.out]
  generalize decide (aS = bS) = q at *
  clear HNO HY HBE
  go_enter Try.func11, Try.ntmps11
  go_wp2_with fail
  rw [← hV]
  clear hV
  refine (CO.out _ (Below.refl _ _)).mono ?_
  rintro e w1 ⟨rfl, b1⟩
  obtain ⟨⟨k0, k1, k2, k3⟩, m0, m1, m2, m3⟩ := HK.out _ b1
  go_wp2_with fail
  refine (CW.out _ b1).mono ?_
  rintro e w2 ⟨rfl, b2⟩
  have B2 := b1.trans (b2.mono b1.size)
  clear k0 k1 k2 k3 m0 m1 m2 m3
  obtain ⟨⟨k0, k1, k2, k3⟩, m0, m1, m2, m3⟩ := HK.out _ B2
  go_wp2_with fail
  refine (CB.out _ B2).mono ?_
  rintro e w3 ⟨rfl, b3⟩
  have B3 := B2.trans (b3.mono B2.size)
  clear k0 k1 k2 k3 m0 m1 m2 m3
  obtain ⟨⟨k0, k1, k2, k3⟩, m0, m1, m2, m3⟩ := HK.out _ B3
  go_wp2_with fail
  refine (CT.out _ B3).mono ?_
  rintro e w4 ⟨rfl, b4⟩
  have B4 := B3.trans (b4.mono B3.size)
  go_wp2
  go_ret
  exact ⟨rfl, BV.trans (B4.mono BV.size)⟩

end Go.Proofs.Ytgggmeceeehdcab
