/- What spec.SameGraph answers. -/
import Derived.Test.YtjihbmkhifnblabNodeEq
namespace Go.Proofs.Ytjihbmkhifnblab
open Go.RowKit
set_option linter.unusedVariables false
set_option maxRecDepth 100000

set_option maxHeartbeats 4000000 in
theorem sSameGraph_calls (v u : Value) (A B : GrD) (w : World) (h1 : RdG w v A) (h2 : RdG w u B) (hs1 : SmallG A) (hs2 : SmallG B) (b : Bool) (hb : b = true ↔ A = B) :
    Calls Try.prog 5 #[v, u] w fun e w' => e = .returned (.bool b) ∧ Below w.heap.size w w' := by
  obtain ⟨ao, co, aw, cw, sa, sc, rfl, ro, rwk, rs⟩ := h1
  obtain ⟨ao2, co2, aw2, cw2, sa2, sc2, rfl, ro2, rwk2, rs2⟩ := h2
  obtain ⟨aO, aW, aS⟩ := A
  obtain ⟨bO, bW, bS⟩ := B
  simp only at *
  rw [GrD.mk.injEq] at hb
  have HNO : Hid (¬ (aO = bO ∧ aW = bW ∧ aS = bS) → b = false) := fun hn => by cases b with | false => rfl | true => exact absurd (hb.1 rfl) hn
  have HY : Hid ((aO = bO ∧ aW = bW ∧ aS = bS) → b = true) := hb.2
  have n1 := hs1.nodes
  have n2 := hs2.nodes
  have n3 := hs1.weaks
  have n4 := hs2.weaks
  have n7 := hs1.sites
  have n8 := hs2.sites
  have HF1 : Hid (∀ z ∈ aO, z.field.length ≤ 1048576) := hs1.fields
  have HF2 : Hid (∀ z ∈ bO, z.field.length ≤ 1048576) := hs2.fields
  simp only at n1 n2 n3 n4 n7 n8
  clear hb hs1 hs2
  by_cases q1 : aO.length = bO.length
  rotate_left
  · have hb0 := HNO.out (fun h => q1 (by rw [h.1]))
    subst hb0
    have q1' : ¬ ((aO.length : Int) = (bO.length : Int)) := by omega
    clear ro rwk rs ro2 rwk2 rs2
    go_enter Try.func5, Try.ntmps5
    go_wp2
    go_ret
    exact ⟨rfl, ((Below.refl _ _).alloc (Nat.le_refl _) _).alloc (by simp) _⟩
  by_cases q2 : aW.length = bW.length
  rotate_left
  · have hb0 := HNO.out (fun h => q2 (by rw [h.2.1]))
    subst hb0
    have q2' : ¬ ((aW.length : Int) = (bW.length : Int)) := by omega
    rw [← q1]
    clear ro rwk rs ro2 rwk2 rs2 q1
    go_enter Try.func5, Try.ntmps5
    go_wp2
    go_ret
    exact ⟨rfl, ((Below.refl _ _).alloc (Nat.le_refl _) _).alloc (by simp) _⟩
  by_cases q4 : aS.length = bS.length
  rotate_left
  · have hb0 := HNO.out (fun h => q4 (by rw [h.2.2]))
    subst hb0
    have q4' : ¬ ((aS.length : Int) = (bS.length : Int)) := by omega
    rw [← q1, ← q2]
    clear ro rwk rs ro2 rwk2 rs2 q1 q2
    go_enter Try.func5, Try.ntmps5
    go_wp2
    go_ret
    exact ⟨rfl, ((Below.refl _ _).alloc (Nat.le_refl _) _).alloc (by simp) _⟩
  obtain ⟨V, hV⟩ : ∃ V, V = (w.alloc (.cells #[.slice ao aO.length co, .slice aw aW.length cw, .slice sa aS.length sc] 32)).alloc (.cells #[.slice ao2 aO.length co2, .slice aw2 aW.length cw2, .slice sa2 aS.length sc2] 32) := ⟨_, rfl⟩
  have BV : Below w.heap.size w V := by rw [hV]; exact ((Below.refl _ _).alloc (Nat.le_refl _) _).alloc (by simp) _
  have HK : Hid (∀ X, Below V.heap.size V X → (X.cell? ⟨w.heap.size, 0, none⟩ = some (.slice ao aO.length co) ∧ X.cell? ⟨w.heap.size, 1, none⟩ = some (.slice aw aW.length cw) ∧ X.cell? ⟨w.heap.size, 2, none⟩ = some (.slice sa aS.length sc)) ∧
      (X.cell? ⟨w.heap.size + 1, 0, none⟩ = some (.slice ao2 aO.length co2) ∧ X.cell? ⟨w.heap.size + 1, 1, none⟩ = some (.slice aw2 aW.length cw2) ∧ X.cell? ⟨w.heap.size + 1, 2, none⟩ = some (.slice sa2 aS.length sc2))) := fun X hX => by
    obtain ⟨A1, hA1⟩ : ∃ A1, A1 = w.alloc (.cells #[.slice ao aO.length co, .slice aw aW.length cw, .slice sa aS.length sc] 32) := ⟨_, rfl⟩
    rw [← hA1] at hV
    have s1 : A1.heap.size = w.heap.size + 1 := by rw [hA1]; simp
    have s2 : V.heap.size = A1.heap.size + 1 := by rw [hV]; simp
    have b1 : Below A1.heap.size A1 V := by rw [hV]; exact (Below.refl _ _).alloc (Nat.le_refl _) _
    refine ⟨three_kept w 32 _ _ _ X (by have h := b1.trans (hX.mono (by omega)); rw [s1, hA1] at h; exact h), ?_⟩
    have h := three_kept A1 32 (.slice ao2 aO.length co2) (.slice aw2 aW.length cw2) (.slice sa2 aS.length sc2) X (by rw [s2, hV] at hX; exact hX)
    rw [s1] at h
    exact h
  have RO1 : Hid (∀ X, Below V.heap.size V X → RdN X ao aO) := fun X hX => rdN_later (rdN_later ro BV) hX
  have RO2 : Hid (∀ X, Below V.heap.size V X → RdN X ao2 bO) := fun X hX => rdN_later (rdN_later ro2 BV) hX
  have RW1 : Hid (∀ X, Below V.heap.size V X → RdW X aw aW) := fun X hX => rdW_later (rdW_later rwk BV) hX
  have RW2 : Hid (∀ X, Below V.heap.size V X → RdW X aw2 bW) := fun X hX => rdW_later (rdW_later rwk2 BV) hX
  have RS1 : Hid (∀ X, Below V.heap.size V X → RdS X sa aS) := fun X hX => rdS_later (rdS_later rs BV) hX
  have RS2 : Hid (∀ X, Below V.heap.size V X → RdS X sa2 bS) := fun X hX => rdS_later (rdS_later rs2 BV) hX
  have HV0 : Hid (∀ X, Below V.heap.size V X → Below w.heap.size w X) := fun X hX => BV.trans (hX.mono BV.size)
  have Q1 : Hid (aO.length = bO.length) := q1
  have Q2 : Hid (aW.length = bW.length) := q2
  have Q4 : Hid (aS.length = bS.length) := q4
  rw [← q1, ← q2, ← q4]
  clear ro rwk rs ro2 rwk2 rs2 q1 q2 q4
  have HNX : Hid (aO ≠ bO → b = false) := fun h => HNO.out (fun e => h e.1)
  have HNW : Hid (aW ≠ bW → b = false) := fun h => HNO.out (fun e => h e.2.1)
  have HNS : Hid (aS ≠ bS → b = false) := fun h => HNO.out (fun e => h e.2.2)
  have HYY : Hid (aO = bO → aW = bW → aS = bS → b = true) := fun e1 e2 e3 => HY.out ⟨e1, e2, e3⟩
  clear HNO HY
  go_enter Try.func5, Try.ntmps5
  go_wp2
  rw [← hV]
  clear hV BV
  go_loopw [5] (fun i X => ∃ j : Nat, j ≤ aO.length ∧ i = .int .i64 (j : Int) ∧ Below V.heap.size V X ∧ Hid (aO.take j = bO.take j)) (fun i _ => aO.length - (intOf i).toNat)
  case atStart => exact ⟨0, by omega, rfl, Below.refl _ _, rfl⟩
  case round =>
    obtain ⟨j, hj, rfl, hb, HE⟩ := hrel
    obtain ⟨⟨k0, -, -⟩, m0, -, -⟩ := HK.out _ hb
    by_cases hlt : j < aO.length
    · have hj3 : j < bO.length := by have := Q1.out; omega
      obtain ⟨g, off, fa, fc, rfl, hg, ho1, hr1⟩ := RO1.out _ hb j hlt
      obtain ⟨g2, off2, fa2, fc2, rfl, hg2, ho2, hr2⟩ := RO2.out _ hb j hj3
      have HN2 : Hid (_ ↔ _) := take_next aO bO j hlt hj3 HE.out
      have hl1 := HF1.out _ (List.getElem_mem hlt)
      have hl2 := HF2.out _ (List.getElem_mem hj3)
      obtain ⟨o1, e1⟩ : ∃ o, aO[j] = o := ⟨_, rfl⟩
      obtain ⟨o2, e2⟩ : ∃ o, bO[j] = o := ⟨_, rfl⟩
      rw [e1] at ho1 hr1 HN2 hl1
      rw [e2] at ho2 hr2 HN2 hl2
      clear e1 e2
      have HZE : Hid (o1 = o2 → aO.take (j + 1) = bO.take (j + 1)) := HN2.out.2
      have HZN : Hid (o1 ≠ o2 → b = false) := fun hn => HNX.out (fun e => hn (HN2.out.1 (take_of_eq e (j + 1))))
      obtain ⟨qf, hqf⟩ := bool_is (o1.field = o2.field)
      have HQF : Hid (qf = true ↔ o1.field = o2.field) := hqf
      clear hqf
      have CI : Hid (∀ X, Below wr.heap.size wr X → _) := fun X hX => l5Ints_calls X fa fa2 fc fc2 o1.field o2.field qf (rdI_later hr1 hX) (rdI_later hr2 hX) (by omega) (by omega) HQF.out
      have h21 : ¬ g2 = wr.heap.size := by omega
      have h22 : g2 < wr.heap.size := hg2
      have hwV := hb.size
      have h32 : w.heap.size + 1 < wr.heap.size := World.block_lt_of_cell? wr _ m0
      have h31 : ¬ w.heap.size + 1 = wr.heap.size := by omega
      obtain ⟨c0, c1, c2, c3, c4, c5⟩ := ho1
      obtain ⟨d0, d1, d2, d3, d4, d5⟩ := ho2
      obtain ⟨l1, g1, s1, t1, r1, fl1⟩ := o1
      obtain ⟨l2, g2', s2, t2, r2, fl2⟩ := o2
      simp only at c0 c1 c2 c3 c4 c5 d0 d1 d2 d3 d4 d5 CI HQF hl1 hl2
      have BB : Hid (Below V.heap.size V ((wr.alloc (.cells #[.bool l1, .int .i64 g1, .int .i64 s1, .int .i64 t1, .int .i64 r1, .slice fa fl1.length fc] 40)).alloc (.cells #[.bool l2, .int .i64 g2', .int .i64 s2, .int .i64 t2, .int .i64 r2, .slice fa2 fl2.length fc2] 40))) := (hb.alloc hb.size _).alloc (by simp; omega) _
      have BW : Hid (Below wr.heap.size wr ((wr.alloc (.cells #[.bool l1, .int .i64 g1, .int .i64 s1, .int .i64 t1, .int .i64 r1, .slice fa fl1.length fc] 40)).alloc (.cells #[.bool l2, .int .i64 g2', .int .i64 s2, .int .i64 t2, .int .i64 r2, .slice fa2 fl2.length fc2] 40))) := ((Below.refl _ _).alloc (Nat.le_refl _) _).alloc (by simp) _
      clear hr1 hr2 hg hg2 HE
      by_cases el : l1 = l2
      rotate_left
      · have hb0 := HZN.out (fun e => el (by injection e))
        subst hb0
        obtain rfl : l1 = !l2 := by cases l1 <;> cases l2 <;> simp_all
        clear el HZN HZE CI
        cases l2
        all_goals
          simp only [Bool.not_false, Bool.not_true] at *
          go_wp2
          go_ret
          exact ⟨rfl, HV0.out _ BB.out⟩
      subst el
      by_cases eg1 : g1 = g2'
      rotate_left
      · have hb0 := HZN.out (fun e => eg1 (by injection e))
        subst hb0
        have hq : (g1 != g2') = true := by rw [bne_iff_ne]; exact eg1
        clear HZN HZE CI
        cases l1
        all_goals
          go_wp2
          go_ret
          exact ⟨rfl, HV0.out _ BB.out⟩
      subst eg1
      by_cases es1 : s1 = s2
      rotate_left
      · have hb0 := HZN.out (fun e => es1 (by injection e))
        subst hb0
        have hq : (s1 != s2) = true := by rw [bne_iff_ne]; exact es1
        clear HZN HZE CI
        cases l1
        all_goals
          go_wp2
          go_ret
          exact ⟨rfl, HV0.out _ BB.out⟩
      subst es1
      by_cases et1 : t1 = t2
      rotate_left
      · have hb0 := HZN.out (fun e => et1 (by injection e))
        subst hb0
        have hq : (t1 != t2) = true := by rw [bne_iff_ne]; exact et1
        clear HZN HZE CI
        cases l1
        all_goals
          go_wp2
          go_ret
          exact ⟨rfl, HV0.out _ BB.out⟩
      subst et1
      by_cases er1 : r1 = r2
      rotate_left
      · have hb0 := HZN.out (fun e => er1 (by injection e))
        subst hb0
        have hq : (r1 != r2) = true := by rw [bne_iff_ne]; exact er1
        clear HZN HZE CI
        cases l1
        all_goals
          go_wp2
          go_ret
          exact ⟨rfl, HV0.out _ BB.out⟩
      subst er1
      by_cases ef : fl1 = fl2
      rotate_left
      · have hb0 := HZN.out (fun e => ef (by injection e))
        subst hb0
        rw [bool_isnt HQF.out ef] at CI
        clear HZN HZE HQF
        cases l1
        all_goals
          go_wp2_with fail
          refine (CI.out _ BW.out).mono ?_
          rintro e w2 ⟨rfl, b2⟩
          have B2 := BB.out.trans (b2.mono BB.out.size)
          clear b2
          go_wp2
          go_ret
          exact ⟨rfl, HV0.out _ B2⟩
      have HFIN : Hid (aO.take (j + 1) = bO.take (j + 1)) := HZE.out (by rw [ef])
      rw [HQF.out.2 ef] at CI
      clear HZN HZE ef HQF
      cases l1
      all_goals
        go_wp2_with fail
        refine (CI.out _ BW.out).mono ?_
        rintro e w2 ⟨rfl, b2⟩
        have B2 := BB.out.trans (b2.mono BB.out.size)
        clear b2
        go_wp2
        go_roundw
        case rel => exact ⟨j + 1, by omega, by go_num, B2, HFIN⟩
        case measure => simp [intOf]; omega
    · have ej : aO.length ≤ j := by omega
      have EO : Hid (aO = bO) := eq_of_takes Q1.out (by have e : j = aO.length := by omega
                                                        rw [← e]; exact HE.out)
      clear HE HNX
      go_wp2
      clear k0 m0
      go_loopw [8] (fun i X => ∃ k : Nat, k ≤ aW.length ∧ i = .int .i64 (k : Int) ∧ Below V.heap.size V X ∧ Hid (aW.take k = bW.take k)) (fun i _ => aW.length - (intOf i).toNat)
      case atStart => exact ⟨0, by omega, rfl, hb, rfl⟩
      case round =>
        clear hb
        obtain ⟨k, hk, rfl, hb, HE⟩ := hrel
        obtain ⟨⟨-, k1, -⟩, -, m1, -⟩ := HK.out _ hb
        by_cases hlt : k < aW.length
        · have hk3 : k < bW.length := by have := Q2.out; omega
          obtain ⟨g, off, rfl, hg, ho1⟩ := RW1.out _ hb k hlt
          obtain ⟨g2, off2, rfl, hg2, ho2⟩ := RW2.out _ hb k hk3
          have hne := LaterW.some_ wr
          have z0 : ∀ X : LaterW wr, X.on.cell? ⟨g, off + k * 2, none⟩ = some (.bool aW[k].used) := fun X => (X.bel.cell (p := ⟨g, off + k * 2, none⟩) hg).trans ho1.c0
          have z1 : ∀ X : LaterW wr, X.on.cell? ⟨g, off + k * 2 + 1, none⟩ = some (.int .i64 aW[k].target) := fun X => (X.bel.cell (p := ⟨g, off + k * 2 + 1, none⟩) hg).trans ho1.c1
          have y0 : ∀ X : LaterW wr, X.on.cell? ⟨g2, off2 + k * 2, none⟩ = some (.bool bW[k].used) := fun X => (X.bel.cell (p := ⟨g2, off2 + k * 2, none⟩) hg2).trans ho2.c0
          have y1 : ∀ X : LaterW wr, X.on.cell? ⟨g2, off2 + k * 2 + 1, none⟩ = some (.int .i64 bW[k].target) := fun X => (X.bel.cell (p := ⟨g2, off2 + k * 2 + 1, none⟩) hg2).trans ho2.c1
          have x1 : ∀ X : LaterW wr, X.on.cell? ⟨w.heap.size, 1, none⟩ = some (.slice (some ⟨g, off, none⟩) aW.length cw) := fun X => (HK.out _ (hb.trans (X.bel.mono hb.size))).1.2.1
          have x2 : ∀ X : LaterW wr, X.on.cell? ⟨w.heap.size + 1, 1, none⟩ = some (.slice (some ⟨g2, off2, none⟩) aW.length cw2) := fun X => (HK.out _ (hb.trans (X.bel.mono hb.size))).2.2.1
          have HN2 : Hid (_ ↔ _) := take_next aW bW k hlt hk3 HE.out
          have i1 : (k : Int) < (aW.length : Int) := by omega
          clear ho1 ho2 HE
          generalize aW[k] = z at *
          generalize bW[k] = y at *
          have hG : ∀ op a b (X : World), (eqGuard op 43 a b (.agg #[.bool z.used, .int .i64 z.target]) (.agg #[.bool y.used, .int .i64 y.target])).run Try.prog X = .ok () X := fun op a b X => guardWeak op a b z y X
          by_cases he : z = y
          · have HE2 : Hid (aW.take (k + 1) = bW.take (k + 1)) := HN2.out.2 he
            subst he
            have hX : ∀ X : World, (binOp .neq 43 (.agg #[.bool z.used, .int .i64 z.target]) (.agg #[.bool z.used, .int .i64 z.target])).run Try.prog X = .ok (.bool false) X := fun X => neqWeak_no z X
            go_wp2
            refine wp_region_later wr (Below.refl _ _) (by kernel_rfl) (by kernel_rfl) ?_
            repeat (go_big_quiet_step (fail))
            refine wpQuiet_nil ?_
            rintro _ ⟨⟨X, hX⟩, rfl⟩
            go_wp2
            go_roundw
            case rel => exact ⟨k + 1, by omega, by go_num, hb.trans (hX.mono hb.size), HE2⟩
            case measure => simp [intOf]; omega
          · have hb0 := HNW.out (fun e => he (HN2.out.1 (take_of_eq e (k + 1))))
            subst hb0
            have hX : ∀ X : World, (binOp .neq 43 (.agg #[.bool z.used, .int .i64 z.target]) (.agg #[.bool y.used, .int .i64 y.target])).run Try.prog X = .ok (.bool true) X := fun X => neqWeak_yes z y he X
            go_wp2
            refine wp_region_later wr (Below.refl _ _) (by kernel_rfl) (by kernel_rfl) ?_
            repeat (go_big_quiet_step (fail))
            refine wpQuiet_nil ?_
            rintro _ ⟨⟨X, hX⟩, rfl⟩
            go_wp2
            go_ret
            exact ⟨rfl, HV0.out _ (hb.trans (hX.mono hb.size))⟩
        · have ek : aW.length ≤ k := by omega
          have EW : Hid (aW = bW) := eq_of_takes Q2.out (by have e : k = aW.length := by omega
                                                            rw [← e]; exact HE.out)
          clear HE HNW
          go_wp2
          clear k1 m1
          go_loopw [9] (fun i X => ∃ l : Nat, l ≤ aS.length ∧ i = .int .i64 (l : Int) ∧ Below V.heap.size V X ∧ Hid (aS.take l = bS.take l)) (fun i _ => aS.length - (intOf i).toNat)
          case atStart => exact ⟨0, by omega, rfl, hb, rfl⟩
          case round =>
            clear hb
            obtain ⟨l, hl, rfl, hb, HE⟩ := hrel
            obtain ⟨⟨-, -, k3⟩, -, -, m3⟩ := HK.out _ hb
            by_cases hlt : l < aS.length
            · have hl3 : l < bS.length := by have := Q4.out; omega
              obtain ⟨g, off, rfl, hg, ho1⟩ := RS1.out _ hb l hlt
              obtain ⟨g2, off2, rfl, hg2, ho2⟩ := RS2.out _ hb l hl3
              have hne := LaterW.some_ wr
              have z0 : ∀ X : LaterW wr, X.on.cell? ⟨g, off + l, none⟩ = some (.string (txt aS[l])) := fun X => (X.bel.cell (p := ⟨g, off + l, none⟩) hg).trans ho1
              have y0 : ∀ X : LaterW wr, X.on.cell? ⟨g2, off2 + l, none⟩ = some (.string (txt bS[l])) := fun X => (X.bel.cell (p := ⟨g2, off2 + l, none⟩) hg2).trans ho2
              have x1 : ∀ X : LaterW wr, X.on.cell? ⟨w.heap.size, 2, none⟩ = some (.slice (some ⟨g, off, none⟩) aS.length sc) := fun X => (HK.out _ (hb.trans (X.bel.mono hb.size))).1.2.2
              have x2 : ∀ X : LaterW wr, X.on.cell? ⟨w.heap.size + 1, 2, none⟩ = some (.slice (some ⟨g2, off2, none⟩) aS.length sc2) := fun X => (HK.out _ (hb.trans (X.bel.mono hb.size))).2.2.2
              have HN2 : Hid (_ ↔ _) := take_next aS bS l hlt hl3 HE.out
              have i1 : (l : Int) < (aS.length : Int) := by omega
              clear ho1 ho2 HE
              generalize aS[l] = z at *
              generalize bS[l] = y at *
              by_cases he : z = y
              · have HE2 : Hid (aS.take (l + 1) = bS.take (l + 1)) := HN2.out.2 he
                subst he
                go_wp2
                refine wp_region_later wr (Below.refl _ _) (by kernel_rfl) (by kernel_rfl) ?_
                repeat (go_big_quiet_step (fail))
                refine wpQuiet_nil ?_
                rintro _ ⟨⟨X, hX⟩, rfl⟩
                go_wp2
                go_roundw
                case rel => exact ⟨l + 1, by omega, by go_num, hb.trans (hX.mono hb.size), HE2⟩
                case measure => simp [intOf]; omega
              · have hb0 := HNS.out (fun e => he (HN2.out.1 (take_of_eq e (l + 1))))
                subst hb0
                have hqs : ((txt z).toList == (txt y).toList) = false := txt_beq_ne' he
                go_wp2
                refine wp_region_later wr (Below.refl _ _) (by kernel_rfl) (by kernel_rfl) ?_
                repeat (go_big_quiet_step (fail))
                refine wpQuiet_nil ?_
                rintro _ ⟨⟨X, hX⟩, rfl⟩
                go_wp2
                go_ret
                exact ⟨rfl, HV0.out _ (hb.trans (hX.mono hb.size))⟩
            · have el : aS.length ≤ l := by omega
              have ES : aS = bS := eq_of_takes Q4.out (by have e : l = aS.length := by omega
                                                          rw [← e]; exact HE.out)
              have hb1 := HYY.out EO.out EW.out ES
              subst hb1
              clear ES
              go_wp2
              go_ret
              exact ⟨rfl, HV0.out _ hb⟩

end Go.Proofs.Ytjihbmkhifnblab
