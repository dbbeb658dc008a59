/- What SamePen answers, the specification's and the program's. -/
import Derived.Test.YtebgngofnmcklabPenBase
import Derived.Test.YtebgngofnmcklabEqWalks
import Derived.Test.YtebgngofnmcklabSSameWalks
import Derived.Test.YtebgngofnmcklabEq3Walks
namespace Go.Proofs.Ytebgngofnmcklab
open Go.RowKit
set_option linter.unusedVariables false
set_option maxRecDepth 100000

/-- Two new blocks of two, in every later world. -/
theorem two_new (w : World) (c0 c1 : Array Value) (t0 t1 : TypeId) (W : World) (hW : W = (w.alloc (.cells c0 t0)).alloc (.cells c1 t1)) :
    Below w.heap.size w W ∧ W.heap.size = w.heap.size + 1 + 1 ∧ ∀ X, Below W.heap.size W X → ∀ k, X.cell? ⟨w.heap.size, k, none⟩ = c0[k]? ∧ X.cell? ⟨w.heap.size + 1, k, none⟩ = c1[k]? := by
  obtain ⟨A, hA⟩ : ∃ A, A = w.alloc (.cells c0 t0) := ⟨_, rfl⟩
  rw [← hA] at hW
  have sA : A.heap.size = w.heap.size + 1 := by rw [hA]; simp
  have sW : W.heap.size = w.heap.size + 1 + 1 := by rw [hW]; simp [sA]
  have bA : Below w.heap.size w A := by rw [hA]; exact (Below.refl _ _).alloc (Nat.le_refl _) _
  have bW : Below A.heap.size A W := by rw [hW]; exact (Below.refl _ _).alloc (Nat.le_refl _) _
  refine ⟨bA.trans (bW.mono bA.size), sW, fun X hX k => ⟨?_, ?_⟩⟩
  · rw [(bW.trans (hX.mono bW.size)).cell (p := ⟨w.heap.size, k, none⟩) (by show w.heap.size < _; omega), hA, World.cell?_alloc_mark]
  · rw [hX.cell (p := ⟨w.heap.size + 1, k, none⟩) (by show w.heap.size + 1 < _; omega), hW, ← sA, World.cell?_alloc_mark]

set_option maxHeartbeats 2000000 in
theorem sSamePen_calls (v u : Value) (A B : PenD) (w : World) (h1 : RdP w v A) (h2 : RdP w u B) (hs1 : SmallP A) (hs2 : SmallP B) (b : Bool) (hb : b = true ↔ A = B) :
    Calls Try.prog 5 #[v, u] w fun e w' => e = .returned (.bool b) ∧ Below w.heap.size w w' := by
  obtain ⟨sa, sc, rfl, rs⟩ := h1
  obtain ⟨sa2, sc2, rfl, rs2⟩ := h2
  obtain ⟨l1, aS⟩ := A
  obtain ⟨l2, bS⟩ := B
  simp only at *
  rw [PenD.mk.injEq] at hb
  have HNO : Hid (¬ (l1 = l2 ∧ aS = bS) → b = false) := fun hn => by cases b with | false => rfl | true => exact absurd (hb.1 rfl) hn
  have HY : Hid ((l1 = l2 ∧ aS = bS) → b = true) := hb.2
  have n7 := hs1.sites
  have n8 := hs2.sites
  simp only at n7 n8
  clear hb hs1 hs2
  obtain ⟨V, hV⟩ : ∃ V, V = (w.alloc (.cells #[.int .i64 l1, .slice sa aS.length sc] 27)).alloc (.cells #[.int .i64 l2, .slice sa2 bS.length sc2] 27) := ⟨_, rfl⟩
  obtain ⟨BV, sV, K⟩ := two_new w _ _ _ _ V hV
  by_cases q1 : l1 = l2
  · by_cases q4 : aS.length = bS.length
    · have HK : Hid (∀ X, Below V.heap.size V X → X.cell? ⟨w.heap.size, 1, none⟩ = some (.slice sa aS.length sc) ∧ X.cell? ⟨w.heap.size + 1, 1, none⟩ = some (.slice sa2 bS.length sc2)) := fun X hX => by
        have h := K X hX 1
        simpa using h
      have RS1 : Hid (∀ X, Below V.heap.size V X → RdS X sa aS) := fun X hX => rdS_later (rdS_later rs BV) hX
      have RS2 : Hid (∀ X, Below V.heap.size V X → RdS X sa2 bS) := fun X hX => rdS_later (rdS_later rs2 BV) hX
      have Q4 : Hid (aS.length = bS.length) := q4
      have HV0 : Hid (∀ X, Below V.heap.size V X → Below w.heap.size w X) := fun X hX => BV.trans (hX.mono BV.size)
      have HNS : Hid (aS ≠ bS → b = false) := fun h => HNO.out (fun e => h e.2)
      have HYY : Hid (aS = bS → b = true) := fun e => HY.out ⟨q1, e⟩
      subst q1
      rw [← q4] at hV HK ⊢
      clear HNO HY K rs rs2 sV q4 n8
      go_enter Try.func5, Try.ntmps5
      go_wp2
      rw [← hV]
      clear hV BV
      have hb0 : Below V.heap.size V V := Below.refl _ _
      go_loopw [5] (fun i X => ∃ l : Nat, l ≤ aS.length ∧ i = .int .i64 (l : Int) ∧ Below V.heap.size V X ∧ Hid (aS.take l = bS.take l)) (fun i _ => aS.length - (intOf i).toNat)
      case atStart => exact ⟨0, by omega, rfl, hb0, rfl⟩
      case round =>
        clear hb0
        obtain ⟨l, hl, rfl, hb, HE⟩ := hrel
        obtain ⟨k3, m3⟩ := HK.out _ hb
        by_cases hlt : l < aS.length
        · have hl3 : l < bS.length := by have := Q4.out; omega
          obtain ⟨g, off, rfl, hg, ho1⟩ := RS1.out _ hb l hlt
          obtain ⟨g2, off2, rfl, hg2, ho2⟩ := RS2.out _ hb l hl3
          have hne := LaterW.some_ wr
          have z0 : ∀ X : LaterW wr, X.on.cell? ⟨g, off + l, none⟩ = some (.string (txt aS[l])) := fun X => (X.bel.cell (p := ⟨g, off + l, none⟩) hg).trans ho1
          have y0 : ∀ X : LaterW wr, X.on.cell? ⟨g2, off2 + l, none⟩ = some (.string (txt bS[l])) := fun X => (X.bel.cell (p := ⟨g2, off2 + l, none⟩) hg2).trans ho2
          have x1 : ∀ X : LaterW wr, X.on.cell? ⟨w.heap.size, 1, none⟩ = some (.slice (some ⟨g, off, none⟩) aS.length sc) := fun X => (HK.out _ (hb.trans (X.bel.mono hb.size))).1
          have x2 : ∀ X : LaterW wr, X.on.cell? ⟨w.heap.size + 1, 1, none⟩ = some (.slice (some ⟨g2, off2, none⟩) aS.length sc2) := fun X => (HK.out _ (hb.trans (X.bel.mono hb.size))).2
          have HN2 : Hid (_ ↔ _) := take_next aS bS l hlt hl3 HE.out
          have i1 : (l : Int) < (aS.length : Int) := by omega
          clear ho1 ho2 HE
          generalize aS[l] = z at *
          generalize bS[l] = y at *
          by_cases he : z = y
          · have HE2 : Hid (aS.take (l + 1) = bS.take (l + 1)) := HN2.out.2 he
            subst he
            go_wp2
            refine wp_region_later wr (Below.refl _ _) (by kernel_rfl) (by kernel_rfl) ?_
            repeat (go_big_quiet_step (fail))
            refine wpQuiet_nil ?_
            rintro _ ⟨⟨X, hX⟩, rfl⟩
            go_wp2
            go_roundw
            case rel => exact ⟨l + 1, by omega, by go_num, hb.trans (hX.mono hb.size), HE2⟩
            case measure => simp [intOf]; omega
          · have hb0 := HNS.out (fun e => he (HN2.out.1 (take_of_eq e (l + 1))))
            subst hb0
            have hqs : ((txt z).toList == (txt y).toList) = false := txt_beq_ne' he
            go_wp2
            refine wp_region_later wr (Below.refl _ _) (by kernel_rfl) (by kernel_rfl) ?_
            repeat (go_big_quiet_step (fail))
            refine wpQuiet_nil ?_
            rintro _ ⟨⟨X, hX⟩, rfl⟩
            go_wp2
            go_ret
            exact ⟨rfl, HV0.out _ (hb.trans (hX.mono hb.size))⟩
        · have el : aS.length ≤ l := by omega
          have ES : aS = bS := eq_of_takes Q4.out (by have e : l = aS.length := by omega
                                                      rw [← e]; exact HE.out)
          have hb1 := HYY.out ES
          subst hb1
          clear ES
          go_wp2
          go_ret
          exact ⟨rfl, HV0.out _ hb⟩
    · have hb0 := HNO.out (fun e => q4 (congrArg List.length e.2))
      subst hb0 q1
      have q4' : ¬ ((aS.length : Int) = (bS.length : Int)) := by omega
      clear rs rs2 HNO HY K
      generalize aS.length = n1 at *
      generalize bS.length = n2 at *
      go_enter Try.func5, Try.ntmps5
      go_wp2
      rw [← hV]
      go_ret
      exact ⟨rfl, BV⟩
  · have hb0 := HNO.out (fun e => q1 e.1)
    subst hb0
    clear rs rs2 HNO HY K
    go_enter Try.func5, Try.ntmps5
    go_wp2
    rw [← hV]
    go_ret
    exact ⟨rfl, BV⟩

theorem iSamePen_calls (v u : Value) (A B : PenD) (w : World) (h1 : RdP w v A) (h2 : RdP w u B) (hs1 : SmallP A) (hs2 : SmallP B) (b : Bool) (hb : b = true ↔ A = B) :
    Calls Try.prog 7 #[v, u] w fun e w' => e = .returned (.bool b) ∧ Below w.heap.size w w' := by
  obtain ⟨sa, sc, rfl, rs⟩ := h1
  obtain ⟨sa2, sc2, rfl, rs2⟩ := h2
  obtain ⟨l1, aS⟩ := A
  obtain ⟨l2, bS⟩ := B
  simp only at *
  rw [PenD.mk.injEq] at hb
  have n7 := hs1.sites
  have n8 := hs2.sites
  simp only at n7 n8
  clear hs1 hs2
  obtain ⟨V, hV⟩ : ∃ V, V = (w.alloc (.cells #[.int .i64 l1, .slice sa aS.length sc] 27)).alloc (.cells #[.int .i64 l2, .slice sa2 bS.length sc2] 27) := ⟨_, rfl⟩
  obtain ⟨BV, sV, -⟩ := two_new w _ _ _ _ V hV
  have CE : Hid (∀ _ : Unit, _) := fun (_ : Unit) => eqStr_calls V sa sa2 sc sc2 aS bS (rdS_later rs BV) (rdS_later rs2 BV) (by omega) (by omega)
  by_cases q1 : l1 = l2
  · have hb2 : b = decide (aS = bS) := by
      cases b with
      | true => exact (decide_eq_true (hb.1 rfl).2).symm
      | false => exact (decide_eq_false (fun e => by have := hb.2 ⟨q1, e⟩; cases this)).symm
    have HB : Hid (b = decide (aS = bS)) := hb2
    subst q1
    clear rs rs2 hb hb2
    generalize decide (aS = bS) = q at *
    go_enter Try.func7, Try.ntmps7
    go_wp2_with fail
    rw [← hV]
    clear hV
    refine (CE.out ()).mono ?_
    rintro e w1 ⟨rfl, b1⟩
    have B1 := BV.trans (b1.mono BV.size)
    go_wp2
    go_ret
    exact ⟨by rw [HB.out]; rfl, B1⟩
  · have hb0 : b = false := by
      cases b with
      | true => exact absurd (hb.1 rfl).1 q1
      | false => rfl
    subst hb0
    clear rs rs2 hb CE
    go_enter Try.func7, Try.ntmps7
    go_wp2
    rw [← hV]
    go_ret
    exact ⟨rfl, BV⟩

end Go.Proofs.Ytebgngofnmcklab
