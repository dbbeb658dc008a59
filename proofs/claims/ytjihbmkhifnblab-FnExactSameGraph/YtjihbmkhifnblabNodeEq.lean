/- What impl.sameNode, slices.EqualFunc over it and impl.SameGraph answer. -/
import Derived.Test.YtjihbmkhifnblabEq2Walks
import Derived.Test.YtjihbmkhifnblabGraphBase
namespace Go.Proofs.Ytjihbmkhifnblab
open Go.RowKit
set_option linter.unusedVariables false
set_option maxRecDepth 100000

theorem bool_is (p : Prop) : ∃ b : Bool, (b = true ↔ p) := by
  by_cases h : p
  · exact ⟨true, by simp [h]⟩
  · exact ⟨false, by simp [h]⟩
theorem bool_isnt {p : Prop} {b : Bool} (h : b = true ↔ p) (hn : ¬ p) : b = false := by
  cases b with
  | false => rfl
  | true => exact absurd (h.1 rfl) hn

theorem sameNode_calls (o1 o2 : NodeD) (f1 f2 : Option Addr) (k1 k2 : Nat) (w : World) (h1 : RdI w f1 o1.field) (h2 : RdI w f2 o2.field) (n1 : o1.field.length ≤ 1048576) (n2 : o2.field.length ≤ 1048576) (b : Bool) (hb : b = true ↔ o1 = o2) :
    Calls Try.prog 17 #[nodeV o1 (.slice f1 o1.field.length k1), nodeV o2 (.slice f2 o2.field.length k2)] w fun e w' => e = .returned (.bool b) ∧ Below w.heap.size w w' := by
  have HNO : Hid (¬ o1 = o2 → b = false) := fun hn => by cases b with | false => rfl | true => exact absurd (hb.1 rfl) hn
  have HY : Hid (o1 = o2 → b = true) := hb.2
  clear hb
  obtain ⟨l1, g1, s1, t1, r1, fl1⟩ := o1
  obtain ⟨l2, g2, s2, t2, r2, fl2⟩ := o2
  unfold nodeV
  simp only at h1 h2 n1 n2 ⊢
  have CE : Hid (∀ X, Below w.heap.size w X → _) := fun X hX => eqInt_calls X f1 f2 k1 k2 fl1 fl2 (rdI_later h1 hX) (rdI_later h2 hX) (by omega) (by omega)
  have BB : Hid (Below w.heap.size w ((w.alloc (.cells #[.bool l1, .int .i64 g1, .int .i64 s1, .int .i64 t1, .int .i64 r1, .slice f1 fl1.length k1] 40)).alloc (.cells #[.bool l2, .int .i64 g2, .int .i64 s2, .int .i64 t2, .int .i64 r2, .slice f2 fl2.length k2] 40))) := ((Below.refl _ _).alloc (Nat.le_refl _) _).alloc (by simp) _
  clear h1 h2
  by_cases el : l1 = l2
  rotate_left
  · have hb0 := HNO.out (fun e => el (by injection e))
    subst hb0
    obtain rfl : l1 = !l2 := by cases l1 <;> cases l2 <;> simp_all
    clear el HNO HY CE
    cases l2
    all_goals
      simp only [Bool.not_false, Bool.not_true] at *
      go_enter Try.func17, Try.ntmps17
      go_wp2
      go_ret
      exact ⟨rfl, BB.out⟩
  subst el
  have HNO1 := HNO
  by_cases eg1 : g1 = g2
  rotate_left
  · have hb0 := HNO.out (fun e => eg1 (by injection e))
    subst hb0
    have hq : (g1 == g2) = false := by rw [beq_eq_false_iff_ne]; exact eg1
    clear HNO HY CE HNO1
    cases l1
    all_goals
      go_enter Try.func17, Try.ntmps17
      go_wp2
      go_ret
      exact ⟨rfl, BB.out⟩
  subst eg1
  by_cases es1 : s1 = s2
  rotate_left
  · have hb0 := HNO.out (fun e => es1 (by injection e))
    subst hb0
    have hq : (s1 == s2) = false := by rw [beq_eq_false_iff_ne]; exact es1
    clear HNO HY CE HNO1
    cases l1
    all_goals
      go_enter Try.func17, Try.ntmps17
      go_wp2
      go_ret
      exact ⟨rfl, BB.out⟩
  subst es1
  by_cases et1 : t1 = t2
  rotate_left
  · have hb0 := HNO.out (fun e => et1 (by injection e))
    subst hb0
    have hq : (t1 == t2) = false := by rw [beq_eq_false_iff_ne]; exact et1
    clear HNO HY CE HNO1
    cases l1
    all_goals
      go_enter Try.func17, Try.ntmps17
      go_wp2
      go_ret
      exact ⟨rfl, BB.out⟩
  subst et1
  by_cases er1 : r1 = r2
  rotate_left
  · have hb0 := HNO.out (fun e => er1 (by injection e))
    subst hb0
    have hq : (r1 == r2) = false := by rw [beq_eq_false_iff_ne]; exact er1
    clear HNO HY CE HNO1
    cases l1
    all_goals
      go_enter Try.func17, Try.ntmps17
      go_wp2
      go_ret
      exact ⟨rfl, BB.out⟩
  subst er1
  have HFIN : Hid (b = decide (fl1 = fl2)) := by
    show _ = _
    by_cases ef : fl1 = fl2
    · rw [decide_eq_true ef]; exact HY.out (by rw [ef])
    · rw [decide_eq_false ef]; exact HNO.out (fun e => ef (by injection e))
  rw [HFIN.out]
  generalize decide (fl1 = fl2) = q at *
  clear HNO HY HNO1 HFIN
  cases l1
  all_goals
    go_enter Try.func17, Try.ntmps17
    go_wp2_with fail
    refine (CE.out _ BB.out).mono ?_
    rintro e w1 ⟨rfl, b1⟩
    have B1 := BB.out.trans (b1.mono BB.out.size)
    clear b1
    go_wp2
    go_ret
    exact ⟨rfl, B1⟩

set_option maxHeartbeats 1000000 in
theorem eqNodeF_calls (w : World) (a c : Option Addr) (cap cap2 : Nat) (zs ys : List NodeD) (q : Bool) (h1 : RdN w a zs) (h2 : RdN w c ys) (hz : zs.length ≤ 1048576) (hy : ys.length ≤ 1048576) (f1 : ∀ z ∈ zs, z.field.length ≤ 1048576) (f2 : ∀ z ∈ ys, z.field.length ≤ 1048576) (hq : q = true ↔ zs = ys) :
    Calls Try.prog 16 #[.slice a zs.length cap, .slice c ys.length cap2, .func (.func 17) #[] #[]] w fun e w' => e = .returned (.bool q) ∧ Below w.heap.size w w' := by
  have HQN : Hid (zs ≠ ys → q = false) := fun hn => by cases q with | false => rfl | true => exact absurd (hq.1 rfl) hn
  have HQ : Hid (zs = ys → q = true) := hq.2
  clear hq
  by_cases hl : zs.length = ys.length
  · have HA : Hid (∀ X, Below w.heap.size w X → RdN X a zs) := fun X hX => rdN_later h1 hX
    have HC : Hid (∀ X, Below w.heap.size w X → RdN X c ys) := fun X hX => rdN_later h2 hX
    have HN : Hid (∀ (j : Nat) (h1 : j < zs.length) (h2 : j < ys.length), zs.take j = ys.take j → _) := fun j h1 h2 h => take_next zs ys j h1 h2 h
    have HT : Hid (zs = ys → ∀ j, zs.take j = ys.take j) := fun h j => take_of_eq h j
    have HF : Hid (zs.take zs.length = ys.take zs.length → zs = ys) := eq_of_takes hl
    have HF1 : Hid (∀ z ∈ zs, z.field.length ≤ 1048576) := f1
    have HF2 : Hid (∀ z ∈ ys, z.field.length ≤ 1048576) := f2
    obtain ⟨n, hnn⟩ : ∃ n, zs.length = n := ⟨_, rfl⟩
    have Hn : Hid (zs.length = n) := hnn
    have Hm : Hid (ys.length = n) := by show _ = _; omega
    rw [hnn] at hz HF ⊢
    rw [Hm.out]
    clear h1 h2 hnn hl hy f1 f2
    go_enter Try.func16, Try.ntmps16
    go_wp2
    go_loopw [17] (fun i wr => ∃ j : Nat, j ≤ n ∧ i = .int .i64 j ∧ Hid (zs.take j = ys.take j) ∧ Below w.heap.size w wr) (fun i _ => n - (intOf i).toNat)
    case atStart => exact ⟨0, by omega, rfl, rfl, Below.refl _ _⟩
    case round =>
      obtain ⟨j, hj, rfl, HE, hb⟩ := hrel
      by_cases hlt : j < n
      · have hj2 : j < zs.length := by have := Hn.out; omega
        have hj3 : j < ys.length := by have := Hm.out; omega
        obtain ⟨g, off, fa, fc, rfl, hg, ho1, hr1⟩ := HA.out _ hb j hj2
        obtain ⟨g2, off2, fa2, fc2, rfl, hg2, ho2, hr2⟩ := HC.out _ hb j hj3
        have HN2 : Hid (_ ↔ _) := HN.out j hj2 hj3 HE.out
        have hl1 := HF1.out _ (List.getElem_mem hj2)
        have hl2 := HF2.out _ (List.getElem_mem hj3)
        obtain ⟨o1, e1⟩ : ∃ o, zs[j] = o := ⟨_, rfl⟩
        obtain ⟨o2, e2⟩ : ∃ o, ys[j] = o := ⟨_, rfl⟩
        rw [e1] at ho1 hr1 HN2 hl1
        rw [e2] at ho2 hr2 HN2 hl2
        clear e1 e2
        obtain ⟨qs, hqs⟩ := bool_is (o1 = o2)
        have CS : Hid (∀ X, Below wr.heap.size wr X → _) := fun X hX => sameNode_calls o1 o2 fa fa2 fc fc2 X (rdI_later hr1 hX) (rdI_later hr2 hX) hl1 hl2 qs hqs
        have BB : Hid (Below wr.heap.size wr ((wr.alloc (.cells #[.bool o1.live, .int .i64 o1.gen, .int .i64 o1.site, .int .i64 o1.holds, .int .i64 o1.roots, .slice fa o1.field.length fc] 40)).alloc (.cells #[.bool o2.live, .int .i64 o2.gen, .int .i64 o2.site, .int .i64 o2.holds, .int .i64 o2.roots, .slice fa2 o2.field.length fc2] 40))) := ((Below.refl _ _).alloc (Nat.le_refl _) _).alloc (by simp) _
        unfold nodeV at CS
        have HZE : Hid (o1 = o2 → zs.take (j + 1) = ys.take (j + 1)) := HN2.out.2
        have HZN : Hid (o1 ≠ o2 → q = false) := fun hn => HQN.out (fun e => hn (HN2.out.1 (HT.out e (j + 1))))
        have h21 : ¬ g2 = wr.heap.size := by omega
        have h22 : g2 < wr.heap.size := hg2
        obtain ⟨c0, c1, c2, c3, c4, c5⟩ := ho1
        obtain ⟨d0, d1, d2, d3, d4, d5⟩ := ho2
        clear hr1 hr2 hg hg2
        by_cases he : o1 = o2
        · have HFIN : Hid _ := HZE.out he
          rw [hqs.2 he] at CS
          clear HZE HZN he hqs
          go_wp2_with fail
          refine (CS.out _ BB.out).mono ?_
          rintro e w1 ⟨rfl, b1⟩
          have B1 := (hb.trans (BB.out.mono hb.size)).trans (b1.mono (hb.trans (BB.out.mono hb.size)).size)
          clear b1
          go_wp2
          go_roundw
          case rel => exact ⟨j + 1, by omega, by go_num, HFIN, B1⟩
          case measure => simp [intOf]; omega
        · have HFIN : Hid _ := HZN.out he
          rw [bool_isnt hqs he] at CS
          clear HZE HZN he hqs
          go_wp2_with fail
          refine (CS.out _ BB.out).mono ?_
          rintro e w1 ⟨rfl, b1⟩
          have B1 := (hb.trans (BB.out.mono hb.size)).trans (b1.mono (hb.trans (BB.out.mono hb.size)).size)
          clear b1
          go_wp2
          go_ret
          exact ⟨ret_q HFIN.out.symm, B1⟩
      · obtain rfl : j = n := by omega
        have HR : Hid (q = true) := HQ.out (HF.out HE.out)
        go_wp2
        go_ret
        exact ⟨ret_q HR.out.symm, hb⟩
  · have hd := HQN.out (fun e => hl (by rw [e]))
    subst hd
    have hq : ¬ ((zs.length : Int) = (ys.length : Int)) := by omega
    clear h1 h2
    go_enter Try.func16, Try.ntmps16
    go_wp2
    go_ret
    exact ⟨rfl, Below.refl _ _⟩

set_option maxHeartbeats 1000000 in
theorem iSameGraph_calls (v u : Value) (A B : GrD) (w : World) (h1 : RdG w v A) (h2 : RdG w u B) (hs1 : SmallG A) (hs2 : SmallG B) (b : Bool) (hb : b = true ↔ A = B) :
    Calls Try.prog 7 #[v, u] w fun e w' => e = .returned (.bool b) ∧ Below w.heap.size w w' := by
  obtain ⟨ao, co, aw, cw, sa, sc, rfl, ro, rwk, rs⟩ := h1
  obtain ⟨ao2, co2, aw2, cw2, sa2, sc2, rfl, ro2, rwk2, rs2⟩ := h2
  obtain ⟨aO, aW, aS⟩ := A
  obtain ⟨bO, bW, bS⟩ := B
  simp only at *
  rw [GrD.mk.injEq] at hb
  have HNO : Hid (¬ (aO = bO ∧ aW = bW ∧ aS = bS) → b = false) := fun hn => by cases b with | false => rfl | true => exact absurd (hb.1 rfl) hn
  have HY : Hid ((aO = bO ∧ aW = bW ∧ aS = bS) → b = true) := hb.2
  obtain ⟨V, hV⟩ : ∃ V, V = (w.alloc (.cells #[.slice ao aO.length co, .slice aw aW.length cw, .slice sa aS.length sc] 32)).alloc (.cells #[.slice ao2 bO.length co2, .slice aw2 bW.length cw2, .slice sa2 bS.length sc2] 32) := ⟨_, rfl⟩
  have BV : Below w.heap.size w V := by rw [hV]; exact ((Below.refl _ _).alloc (Nat.le_refl _) _).alloc (by simp) _
  have HK : Hid (∀ X, Below V.heap.size V X → (X.cell? ⟨w.heap.size, 0, none⟩ = some (.slice ao aO.length co) ∧ X.cell? ⟨w.heap.size, 1, none⟩ = some (.slice aw aW.length cw) ∧ X.cell? ⟨w.heap.size, 2, none⟩ = some (.slice sa aS.length sc)) ∧
      (X.cell? ⟨w.heap.size + 1, 0, none⟩ = some (.slice ao2 bO.length co2) ∧ X.cell? ⟨w.heap.size + 1, 1, none⟩ = some (.slice aw2 bW.length cw2) ∧ X.cell? ⟨w.heap.size + 1, 2, none⟩ = some (.slice sa2 bS.length sc2))) := fun X hX => by
    obtain ⟨A1, hA1⟩ : ∃ A1, A1 = w.alloc (.cells #[.slice ao aO.length co, .slice aw aW.length cw, .slice sa aS.length sc] 32) := ⟨_, rfl⟩
    rw [← hA1] at hV
    have s1 : A1.heap.size = w.heap.size + 1 := by rw [hA1]; simp
    have s2 : V.heap.size = A1.heap.size + 1 := by rw [hV]; simp
    have b1 : Below A1.heap.size A1 V := by rw [hV]; exact (Below.refl _ _).alloc (Nat.le_refl _) _
    refine ⟨three_kept w 32 _ _ _ X (by have h := b1.trans (hX.mono (by omega)); rw [s1, hA1] at h; exact h), ?_⟩
    have h := three_kept A1 32 (.slice ao2 bO.length co2) (.slice aw2 bW.length cw2) (.slice sa2 bS.length sc2) X (by rw [s2, hV] at hX; exact hX)
    rw [s1] at h
    exact h
  obtain ⟨qo, hqo⟩ := bool_is (aO = bO)
  obtain ⟨qw, hqw⟩ := bool_is (aW = bW)
  have CO : Hid (∀ X, Below V.heap.size V X → _) := fun X hX => eqNodeF_calls X ao ao2 co co2 aO bO qo (rdN_later (rdN_later ro BV) hX) (rdN_later (rdN_later ro2 BV) hX) hs1.nodes hs2.nodes hs1.fields hs2.fields hqo
  have CW : Hid (∀ X, Below V.heap.size V X → _) := fun X hX => eqWk_calls X aw aw2 cw cw2 aW bW qw (rdW_later (rdW_later rwk BV) hX) (rdW_later (rdW_later rwk2 BV) hX) hs1.weaks hs2.weaks hqw
  have CT : Hid (∀ X, Below V.heap.size V X → _) := fun X hX => eqStr_calls X sa sa2 sc sc2 aS bS (rdS_later (rdS_later rs BV) hX) (rdS_later (rdS_later rs2 BV) hX) (Nat.le_trans hs1.sites (by omega)) (Nat.le_trans hs2.sites (by omega))
  clear hb ro rwk rs ro2 rwk2 rs2 hs1 hs2
  by_cases e1 : aO = bO
  rotate_left
  · have hb0 := HNO.out (fun h => e1 h.1)
    subst hb0
    rw [bool_isnt hqo e1] at CO
    clear hqo hqw
    go_enter Try.func7, Try.ntmps7
    go_wp2_with fail
    rw [← hV]
    clear hV
    refine (CO.out _ (Below.refl _ _)).mono ?_
    rintro e w1 ⟨rfl, b1⟩
    go_wp2
    go_ret
    exact ⟨rfl, BV.trans (b1.mono BV.size)⟩
  rw [hqo.2 e1] at CO
  clear hqo
  have E1 : Hid (aO = bO) := e1
  clear e1
  by_cases e2 : aW = bW
  rotate_left
  · have hb0 := HNO.out (fun h => e2 h.2.1)
    subst hb0
    rw [bool_isnt hqw e2] at CW
    clear hqw
    go_enter Try.func7, Try.ntmps7
    go_wp2_with fail
    rw [← hV]
    clear hV
    refine (CO.out _ (Below.refl _ _)).mono ?_
    rintro e w1 ⟨rfl, b1⟩
    obtain ⟨⟨k0, k1, k2⟩, m0, m1, m2⟩ := HK.out _ b1
    go_wp2_with fail
    refine (CW.out _ b1).mono ?_
    rintro e w2 ⟨rfl, b2⟩
    have B2 := b1.trans (b2.mono b1.size)
    go_wp2
    go_ret
    exact ⟨rfl, BV.trans (B2.mono BV.size)⟩
  rw [hqw.2 e2] at CW
  clear hqw
  have E2 : Hid (aW = bW) := e2
  clear e2
  have HBE : Hid (b = decide (aS = bS)) := by
    show _ = _
    by_cases e4 : aS = bS
    · rw [decide_eq_true e4]; exact HY.out ⟨E1.out, E2.out, e4⟩
    · rw [decide_eq_false e4]; exact HNO.out (fun h => e4 h.2.2)
  rw [HBE.out]
  generalize decide (aS = bS) = q at *
  clear HNO HY HBE
  go_enter Try.func7, Try.ntmps7
  go_wp2_with fail
  rw [← hV]
  clear hV
  refine (CO.out _ (Below.refl _ _)).mono ?_
  rintro e w1 ⟨rfl, b1⟩
  obtain ⟨⟨k0, k1, k2⟩, m0, m1, m2⟩ := HK.out _ b1
  go_wp2_with fail
  refine (CW.out _ b1).mono ?_
  rintro e w2 ⟨rfl, b2⟩
  have B2 := b1.trans (b2.mono b1.size)
  clear k0 k1 k2 m0 m1 m2
  obtain ⟨⟨k0, k1, k2⟩, m0, m1, m2⟩ := HK.out _ B2
  go_wp2_with fail
  refine (CT.out _ B2).mono ?_
  rintro e w4 ⟨rfl, b4⟩
  have B4 := B2.trans (b4.mono B2.size)
  go_wp2
  go_ret
  exact ⟨rfl, BV.trans (B4.mono BV.size)⟩

end Go.Proofs.Ytjihbmkhifnblab
