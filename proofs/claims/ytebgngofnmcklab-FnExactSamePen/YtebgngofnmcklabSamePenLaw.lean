/- The law on SamePen, walked over any two SamePen that answer alike and write nothing that was there. -/
import Derived.Test.YtebgngofnmcklabPenBase
namespace Go.Proofs.Ytebgngofnmcklab
open Go.RowKit
set_option linter.unusedVariables false

set_option maxHeartbeats 2000000 in
theorem sameP_law (v u : Value) (A B : PenD) (w : World) (r1 : RdP w v A) (r2 : RdP w u B) (y1 : SaneP A) (y2 : SaneP B) (b : Bool)
    (hS : SmallP A → SmallP B → ∀ X x y, Below w.heap.size w X → RdP X x A → RdP X y B → Calls Try.prog 5 #[x, y] X fun e w' => e = .returned (.bool b) ∧ Below X.heap.size X w')
    (hI : SmallP A → SmallP B → ∀ X x y, Below w.heap.size w X → RdP X x A → RdP X y B → Calls Try.prog 7 #[x, y] X fun e w' => e = .returned (.bool b) ∧ Below X.heap.size X w') :
    Calls Try.prog 3 #[v, u] w fun e w' => e = .returned (.bool true) ∧ Below w.heap.size w w' := by
  have R1 : Hid (∀ X, Below w.heap.size w X → RdP X v A) := fun X hX => rdP_later r1 hX
  have R2 : Hid (∀ X, Below w.heap.size w X → RdP X u B) := fun X hX => rdP_later r2 hX
  have hzl := szP_le A 1048576 (by omega)
  have CZ1 : Hid (∀ X, Below w.heap.size w X → _) := fun X hX => szPen_calls X v A 1048576 (R1.out X hX) y1 (by omega) (by omega)
  obtain ⟨a0, a1, n1, k1, hv⟩ := rdP_form r1
  obtain ⟨e0, e1, m1, j1, hu⟩ := rdP_form r2
  obtain ⟨W, hW⟩ : ∃ W, W = (w.alloc (.cells #[.int .i64 a0, .slice a1 n1 k1] 24)).alloc (.cells #[.int .i64 e0, .slice e1 m1 j1] 24) := ⟨_, rfl⟩
  have BW : Below w.heap.size w W := by rw [hW]; exact ((Below.refl _ _).alloc (Nat.le_refl _) _).alloc (by simp) _
  have hWs : W.heap.size = w.heap.size + 1 + 1 := by rw [hW]; simp
  have HK : Hid (∀ X, Below W.heap.size W X → (X.cell? ⟨w.heap.size, 0, none⟩ = some (.int .i64 a0) ∧ X.cell? ⟨w.heap.size, 1, none⟩ = some (.slice a1 n1 k1)) ∧
      (X.cell? ⟨w.heap.size + 1, 0, none⟩ = some (.int .i64 e0) ∧ X.cell? ⟨w.heap.size + 1, 1, none⟩ = some (.slice e1 m1 j1))) := fun X hX => by
    obtain ⟨A1, hA1⟩ : ∃ A1, A1 = w.alloc (.cells #[.int .i64 a0, .slice a1 n1 k1] 24) := ⟨_, rfl⟩
    rw [← hA1] at hW
    have s1 : A1.heap.size = w.heap.size + 1 := by rw [hA1]; simp
    have s2 : W.heap.size = A1.heap.size + 1 := by omega
    have b1 : Below A1.heap.size A1 W := by rw [hW]; exact (Below.refl _ _).alloc (Nat.le_refl _) _
    refine ⟨two_kept w 24 _ _ X (by have h := b1.trans (hX.mono (by omega)); rw [s1, hA1] at h; exact h), ?_⟩
    have h := two_kept A1 24 (.int .i64 e0) (.slice e1 m1 j1) X (by rw [s2, hW] at hX; exact hX)
    rw [s1] at h
    exact h
  have HWX : Hid (∀ X, Below W.heap.size W X → Below w.heap.size w X) := fun X hX => BW.trans (hX.mono BW.size)
  clear r1 r2
  by_cases hz : szP A 1048576 < 0
  · clear hS hI
    generalize szP A 1048576 = z at *
    subst hv hu
    go_enter Try.func3, Try.ntmps3
    go_wp2_with fail
    rw [← hW]
    clear hW
    refine (CZ1.out _ BW).mono ?_
    rintro e w1 ⟨rfl, b1⟩
    have B1 := BW.trans (b1.mono BW.size)
    go_wp2
    go_ret
    exact ⟨rfl, B1⟩
  have hsA := szP_small A 1048576 (by omega) (by omega) hz
  have CZ2 : Hid (∀ X, Below w.heap.size w X → _) := fun X hX => szPen_calls X u B (szP A 1048576) (R2.out X hX) y2 (by omega) (by omega)
  have hzl2 := szP_le B (szP A 1048576) (by omega)
  by_cases hz2 : szP B (szP A 1048576) < 0
  · clear hS hI
    generalize szP B (szP A 1048576) = z2 at *
    generalize szP A 1048576 = z at *
    subst hv hu
    have hz' : 0 ≤ z := by omega
    go_enter Try.func3, Try.ntmps3
    go_wp2_with fail
    rw [← hW]
    clear hW
    refine (CZ1.out _ BW).mono ?_
    rintro e w1 ⟨rfl, b1⟩
    have B1 := BW.trans (b1.mono BW.size)
    obtain ⟨⟨c0, c1⟩, d0, d1⟩ := HK.out _ b1
    go_wp2_with fail
    refine (CZ2.out _ B1).mono ?_
    rintro e w2 ⟨rfl, b2⟩
    have B2 := B1.trans (b2.mono B1.size)
    go_wp2
    go_ret
    exact ⟨rfl, B2⟩
  have hsB := szP_small B _ (by omega) (by omega) hz2
  have TA : Hid (∀ X, Below W.heap.size W X → _) := fun X hX => toPen_calls X v A (R1.out X (HWX.out X hX)) hsA
  have TB : Hid (∀ X, Below W.heap.size W X → _) := fun X hX => toPen_calls X u B (R2.out X (HWX.out X hX)) hsB
  have EA : Hid (∀ X x y, RdP X x A → RdP X y A → _) := fun X x y h1 h2 => eqPen_calls X x y A h1 h2 hsA
  have EB : Hid (∀ X x y, RdP X x B → RdP X y B → _) := fun X x y h1 h2 => eqPen_calls X x y B h1 h2 hsB
  have CS : Hid (∀ X x y, Below W.heap.size W X → RdP X x A → RdP X y B → _) := fun X x y hX h1 h2 => hS hsA hsB X x y (HWX.out X hX) h1 h2
  have CI : Hid (∀ X x y, Below W.heap.size W X → RdP X x A → RdP X y B → _) := fun X x y hX h1 h2 => hI hsA hsB X x y (HWX.out X hX) h1 h2
  clear hS hI hsA hsB R1 R2 y1 y2
  generalize szP B (szP A 1048576) = z2 at *
  generalize szP A 1048576 = z at *
  have hz' : 0 ≤ z := by omega
  have hz2' : 0 ≤ z2 := by omega
  subst hv hu
  go_enter Try.func3, Try.ntmps3
  go_wp2_with fail
  rw [← hW]
  clear hW hWs
  refine (CZ1.out _ BW).mono ?_
  rintro e w1 ⟨rfl, b1⟩
  have B1 := BW.trans (b1.mono BW.size)
  obtain ⟨⟨c0, c1⟩, d0, d1⟩ := HK.out _ b1
  go_wp2_with fail
  refine (CZ2.out _ B1).mono ?_
  rintro e w2 ⟨rfl, b2⟩
  have T2 := b1.trans (b2.mono b1.size)
  clear c0 c1 d0 d1 b1 b2 B1 CZ1 CZ2
  obtain ⟨⟨c0, c1⟩, d0, d1⟩ := HK.out _ T2
  have D : Below W.heap.size W w2.drew := T2.drew
  go_wp2_with fail
  go_region_held (fun X => (X.cell? ⟨w.heap.size, 0, none⟩ = some (.int .i64 a0) ∧ X.cell? ⟨w.heap.size, 1, none⟩ = some (.slice a1 n1 k1)) ∧
      (X.cell? ⟨w.heap.size + 1, 0, none⟩ = some (.int .i64 e0) ∧ X.cell? ⟨w.heap.size + 1, 1, none⟩ = some (.slice e1 m1 j1)))
    (first | exact HK.out _ E3 | exact HK.out _ EF | exact HK.out _ E1 | exact HK.out _ D)
    (first
      | (go_at_call_of 6 (Value.agg #[Value.int .i64 a0, Value.slice a1 n1 k1]); first
          | (refine (TA.out _ E1).mono ?_; rintro e wA ⟨uA, rfl, OA, bA⟩; (have EF := E1.trans (bA.mono E1.size)); (have RB := ownP_rd (ownP_later O1 bA)); (have RA := ownP_rd OA))
          | (refine (TA.out _ D).mono ?_; rintro e wA ⟨uA, rfl, O1, bA⟩; (have E1 := D.trans (bA.mono D.size))))
      | (go_at_call_of 6 (Value.agg #[Value.int .i64 e0, Value.slice e1 m1 j1]); first
          | (refine (TB.out _ E1).mono ?_; rintro e wA ⟨uB, rfl, OB, bB⟩; (have EF := E1.trans (bB.mono E1.size)); (have RA := ownP_rd (ownP_later O1 bB)); (have RB := ownP_rd OB))
          | (refine (TB.out _ D).mono ?_; rintro e wA ⟨uB, rfl, O1, bB⟩; (have E1 := D.trans (bB.mono D.size))))
      | (go_at_call 5; refine (CS.out _ _ _ EF RA RB).mono ?_; rintro e w3 ⟨rfl, b3⟩; have E3 := EF.trans (b3.mono EF.size)))
  all_goals
    clear c0 c1 d0 d1
    obtain ⟨⟨c0, c1⟩, d0, d1⟩ := HK.out _ E3
    clear RA RB O1 EF E1 D T2 b3
    have hs3 := E3.size
    go_wp2_with fail
    refine (TA.out _ E3).mono ?_
    rintro e w4 ⟨u4, rfl, O4, b4⟩
    have E4 := E3.trans (b4.mono E3.size)
    obtain ⟨p0, p1, q1, s1, hu4⟩ := rdP_form (ownP_rd O4)
    subst hu4
    clear c0 c1 d0 d1 b4
    obtain ⟨⟨c0, c1⟩, d0, d1⟩ := HK.out _ E4
    have l4 : w.heap.size + 1 < w4.heap.size := World.block_lt_of_cell? w4 _ d0
    have l4' : ¬ w.heap.size + 1 = w4.heap.size := by omega
    obtain ⟨V4, hV4⟩ : ∃ V4, V4 = w4.alloc (.cells #[.int .i64 p0, .slice p1 q1 s1] 27) := ⟨_, rfl⟩
    have BV4 : Below w4.heap.size w4 V4 := by rw [hV4]; exact (Below.refl _ _).alloc (Nat.le_refl _) _
    have sV4 : V4.heap.size = w4.heap.size + 1 := by rw [hV4]; simp
    have F4 := E4.trans (BV4.mono E4.size)
    have HX4 : Hid (∀ X, Below V4.heap.size V4 X → _) := fun X (hX : Below V4.heap.size V4 X) => two_kept w4 27 (.int .i64 p0) (.slice p1 q1 s1) X (by rw [sV4, hV4] at hX; exact hX)
    have RA4 : Hid (∀ X, Below V4.heap.size V4 X → RdP X _ A) := fun X hX => rdP_later (rdP_later (ownP_rd O4) BV4) hX
    clear O4
    go_wp2_with fail
    rw [← hV4]
    clear hV4
    refine (TB.out _ F4).mono ?_
    rintro e w5 ⟨u5, rfl, O5, b5⟩
    have E5 := F4.trans (b5.mono F4.size)
    obtain ⟨f0, f1, h1, i1, hu5⟩ := rdP_form (ownP_rd O5)
    subst hu5
    clear c0 c1 d0 d1
    obtain ⟨x0, x1⟩ := HX4.out _ b5
    have l5 : w4.heap.size < w5.heap.size := World.block_lt_of_cell? w5 _ x0
    have l5' : ¬ w4.heap.size = w5.heap.size := by omega
    obtain ⟨V5, hV5⟩ : ∃ V5, V5 = w5.alloc (.cells #[.int .i64 f0, .slice f1 h1 i1] 27) := ⟨_, rfl⟩
    have BV5 : Below w5.heap.size w5 V5 := by rw [hV5]; exact (Below.refl _ _).alloc (Nat.le_refl _) _
    have sV5 : V5.heap.size = w5.heap.size + 1 := by rw [hV5]; simp
    have F5 := E5.trans (BV5.mono E5.size)
    have G5 := b5.trans (BV5.mono b5.size)
    have HX5 : Hid (∀ X, Below V5.heap.size V5 X → _) := fun X (hX : Below V5.heap.size V5 X) => two_kept w5 27 (.int .i64 f0) (.slice f1 h1 i1) X (by rw [sV5, hV5] at hX; exact hX)
    have RB5 : Hid (∀ X, Below V5.heap.size V5 X → RdP X _ B) := fun X hX => rdP_later (rdP_later (ownP_rd O5) BV5) hX
    clear O5
    go_wp2_with fail
    rw [← hV5]
    clear hV5
    refine (CI.out _ _ _ F5 (RA4.out _ G5) (RB5.out _ (Below.refl _ _))).mono ?_
    rintro e w6 ⟨rfl, b6⟩
    have HS : Hid (∀ X, Below w6.heap.size w6 X → (fun X => ((X.cell? ⟨w.heap.size, 0, none⟩ = some (.int .i64 a0) ∧ X.cell? ⟨w.heap.size, 1, none⟩ = some (.slice a1 n1 k1)) ∧ (X.cell? ⟨w.heap.size + 1, 0, none⟩ = some (.int .i64 e0) ∧ X.cell? ⟨w.heap.size + 1, 1, none⟩ = some (.slice e1 m1 j1))) ∧ (X.cell? ⟨w4.heap.size, 0, none⟩ = some (.int .i64 p0) ∧ X.cell? ⟨w4.heap.size, 1, none⟩ = some (.slice p1 q1 s1)) ∧ (X.cell? ⟨w5.heap.size, 0, none⟩ = some (.int .i64 f0) ∧ X.cell? ⟨w5.heap.size, 1, none⟩ = some (.slice f1 h1 i1))) X) := fun X hX => ⟨HK.out X (F5.trans ((b6.trans (hX.mono b6.size)).mono F5.size)), HX4.out X (G5.trans ((b6.trans (hX.mono b6.size)).mono G5.size)), HX5.out X (b6.trans (hX.mono b6.size))⟩
    have HRA : Hid (∀ X, Below w6.heap.size w6 X → RdP X _ A) := fun X hX => RA4.out X (G5.trans ((b6.trans (hX.mono b6.size)).mono G5.size))
    have HRB : Hid (∀ X, Below w6.heap.size w6 X → RdP X _ B) := fun X hX => RB5.out X (b6.trans (hX.mono b6.size))
    have HTA : Hid (∀ X, Below w6.heap.size w6 X → _) := fun X hX => TA.out X (F5.trans ((b6.trans (hX.mono b6.size)).mono F5.size))
    have HTB : Hid (∀ X, Below w6.heap.size w6 X → _) := fun X hX => TB.out X (F5.trans ((b6.trans (hX.mono b6.size)).mono F5.size))
    have HEND : Hid (∀ X, Below w6.heap.size w6 X → Below w.heap.size w X) := fun X hX => HWX.out X (F5.trans ((b6.trans (hX.mono b6.size)).mono F5.size))
    have D6 : Below w6.heap.size w6 w6.drew := (Below.refl _ _).drew
    clear x0 x1 TA TB CS CI E3 E4 F4 b5 E5 BV4 BV5 F5 G5 b6 sV4 sV5 HX4 HX5 RA4 RB5
    obtain ⟨⟨⟨c0, c1⟩, d0, d1⟩, ⟨x0, x1⟩, g0, g1⟩ := HS.out _ (Below.refl _ _)
    cases b
    all_goals
      go_wp2_with fail
      go_region_held (fun X => ((X.cell? ⟨w.heap.size, 0, none⟩ = some (.int .i64 a0) ∧ X.cell? ⟨w.heap.size, 1, none⟩ = some (.slice a1 n1 k1)) ∧ (X.cell? ⟨w.heap.size + 1, 0, none⟩ = some (.int .i64 e0) ∧ X.cell? ⟨w.heap.size + 1, 1, none⟩ = some (.slice e1 m1 j1))) ∧ (X.cell? ⟨w4.heap.size, 0, none⟩ = some (.int .i64 p0) ∧ X.cell? ⟨w4.heap.size, 1, none⟩ = some (.slice p1 q1 s1)) ∧ (X.cell? ⟨w5.heap.size, 0, none⟩ = some (.int .i64 f0) ∧ X.cell? ⟨w5.heap.size, 1, none⟩ = some (.slice f1 h1 i1)))
        (first | exact HS.out _ B8 | exact HS.out _ B7 | exact HS.out _ D6)
        (first
          | (go_at_call 6; refine (HTA.out _ D6).mono ?_; rintro e w7 ⟨u7, rfl, O7, b7⟩; have B7 := D6.trans (b7.mono D6.size))
          | (go_at_call 8; refine (EA.out _ _ _ (HRA.out _ B7) (ownP_rd O7)).mono ?_; rintro e w8 ⟨rfl, b8⟩; have B8 := B7.trans (b8.mono B7.size)))
      all_goals
        clear c0 c1 d0 d1 x0 x1 g0 g1
        obtain ⟨⟨⟨c0, c1⟩, d0, d1⟩, ⟨x0, x1⟩, g0, g1⟩ := HS.out _ B8
        have D8 : Below w6.heap.size w6 w8.drew := B8.drew
        clear b7 b8 O7 B7
        go_wp2_with fail
        go_region_held (fun X => ((X.cell? ⟨w.heap.size, 0, none⟩ = some (.int .i64 a0) ∧ X.cell? ⟨w.heap.size, 1, none⟩ = some (.slice a1 n1 k1)) ∧ (X.cell? ⟨w.heap.size + 1, 0, none⟩ = some (.int .i64 e0) ∧ X.cell? ⟨w.heap.size + 1, 1, none⟩ = some (.slice e1 m1 j1))) ∧ (X.cell? ⟨w4.heap.size, 0, none⟩ = some (.int .i64 p0) ∧ X.cell? ⟨w4.heap.size, 1, none⟩ = some (.slice p1 q1 s1)) ∧ (X.cell? ⟨w5.heap.size, 0, none⟩ = some (.int .i64 f0) ∧ X.cell? ⟨w5.heap.size, 1, none⟩ = some (.slice f1 h1 i1)))
          (first | exact HS.out _ B10 | exact HS.out _ B9 | exact HS.out _ D8)
          (first
            | (go_at_call 6; refine (HTB.out _ D8).mono ?_; rintro e w9 ⟨u9, rfl, O9, b9⟩; have B9 := D8.trans (b9.mono D8.size))
            | (go_at_call 8; refine (EB.out _ _ _ (HRB.out _ B9) (ownP_rd O9)).mono ?_; rintro e w10 ⟨rfl, b10⟩; have B10 := B9.trans (b10.mono B9.size)))
        all_goals
          go_wp2
          go_ret
          exact ⟨rfl, HEND.out _ B10⟩

end Go.Proofs.Ytebgngofnmcklab
