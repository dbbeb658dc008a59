/- The law on Whites, walked over any two Whites that answer alike in rows of their own and write nothing that was there. -/
import Derived.Test.YtjhceoejblmihaaTrialHelp
import Derived.Deep.RegionHeld
namespace Go.Proofs.Ytjhceoejblmihaa
open Go.RowKit
set_option linter.unusedVariables false

theorem rdT_form {w : World} {v : Value} {T : TrialD} (r : RdT w v T) : ∃ a0 n0 k0 a1 n1 k1, v = .agg #[.slice a0 n0 k0, .slice a1 n1 k1] := by
  obtain ⟨a, c, b, d, h, -, -⟩ := r
  exact ⟨_, _, _, _, _, _, h⟩
theorem two_kept (w : World) (t : TypeId) (x0 x1 : Value) (X : World) (hX : Below (w.heap.size + 1) (w.alloc (.cells #[x0, x1] t)) X) : X.cell? ⟨w.heap.size, 0, none⟩ = some x0 ∧ X.cell? ⟨w.heap.size, 1, none⟩ = some x1 := by
  have h : ∀ k, X.cell? ⟨w.heap.size, k, none⟩ = (#[x0, x1] : Array Value)[k]? := fun k => by
    rw [hX.cell (p := ⟨w.heap.size, k, none⟩) (Nat.lt_succ_self _), World.cell?_alloc_mark]
  exact ⟨h 0, h 1⟩

set_option maxRecDepth 100000 in
theorem whites_law (v : Value) (T : TrialD) (w : World) (r : RdT w v T) (y : SaneT T) (Z : List Int) (hZ0 : SmallT T → Z.length ≤ 16777216)
    (hS : SmallT T → ∀ X u, Below w.heap.size w X → RdT X u T → Calls Try.prog 19 #[u] X fun e w' => ∃ x, e = .returned x ∧ ownI w' X.heap.size x Z ∧ Below X.heap.size X w')
    (hI : SmallT T → ∀ X u, Below w.heap.size w X → RdT X u T → Calls Try.prog 21 #[u] X fun e w' => ∃ x, e = .returned x ∧ ownI w' X.heap.size x Z ∧ Below X.heap.size X w') :
    Calls Try.prog 4 #[v] w fun e w' => e = .returned (.bool true) ∧ Below w.heap.size w w' := by
  have R : Hid (∀ X, Below w.heap.size w X → RdT X v T) := fun X hX => rdT_later r hX
  have CZ : Hid (∀ X, Below w.heap.size w X → _) := fun X hX => szTrial_calls X v T 1048576 (R.out X hX) y (by omega) (by omega)
  have VH : Hid (∃ a0 n0 k0 a1 n1 k1, v = .agg #[.slice a0 n0 k0, .slice a1 n1 k1]) := rdT_form r
  clear r
  by_cases hz : szT T 1048576 < 0
  · clear hS hI hZ0
    generalize szT T 1048576 = z at *
    obtain ⟨a0, n0, k0, a1, n1, k1, rfl⟩ := VH.out
    go_enter Try.func4, Try.ntmps4
    go_wp2_with fail
    have BW : Below w.heap.size w (w.alloc (.cells #[.slice a0 n0 k0, .slice a1 n1 k1] 42)) := (Below.refl _ _).alloc (Nat.le_refl _) _
    refine (CZ.out _ BW).mono ?_
    rintro e w1 ⟨rfl, b1⟩
    have B1 := BW.trans (b1.mono BW.size)
    clear BW b1
    go_wp2
    go_ret
    exact ⟨rfl, B1⟩
  · have hsm := szT_small T (by omega) hz
    have CT : Hid (∀ X, Below w.heap.size w X → _) := fun X hX => toTrial_calls X v T (R.out X hX) hsm
    have CE : Hid (∀ X u1 u2, RdT X u1 T → RdT X u2 T → _) := fun X u1 u2 h1 h2 => eqTrial_calls X u1 u2 T h1 h2 (by have := hsm.counts; omega) (by have := hsm.colors; omega)
    have HSM : Hid (T.counts.length ≤ 16777216 ∧ T.colors.length ≤ 16777216) := ⟨by have := hsm.counts; omega, by have := hsm.colors; omega⟩
    have CS : Hid (∀ X u, Below w.heap.size w X → RdT X u T → _) := hS hsm
    have CI : Hid (∀ X u, Below w.heap.size w X → RdT X u T → _) := hI hsm
    have hZ := hZ0 hsm
    have HZ : Hid (Z.length ≤ 16777216) := hZ
    obtain ⟨n, hn⟩ : ∃ n, Z.length = n := ⟨_, rfl⟩
    rw [hn] at hZ
    have Hn : Hid (Z.length = n) := hn
    clear hS hI hsm hn hZ0
    generalize szT T 1048576 = z at *
    have hz2 : 0 ≤ z := by omega
    obtain ⟨a0, n0, k0, a1, n1, k1, rfl⟩ := VH.out
    obtain ⟨W, hW⟩ : ∃ W, W = w.alloc (.cells #[.slice a0 n0 k0, .slice a1 n1 k1] 42) := ⟨_, rfl⟩
    have BW : Below w.heap.size w W := by rw [hW]; exact (Below.refl _ _).alloc (Nat.le_refl _) _
    have hWs : W.heap.size = w.heap.size + 1 := by rw [hW]; simp
    have HK : Hid (∀ X, Below W.heap.size W X → _) := fun X (hX : Below W.heap.size W X) => two_kept w 42 (.slice a0 n0 k0) (.slice a1 n1 k1) X (by rw [hWs, hW] at hX; exact hX)
    clear VH R hz
    go_enter Try.func4, Try.ntmps4
    go_wp2_with fail
    rw [← hW]
    refine (CZ.out _ BW).mono ?_
    rintro e w1 ⟨rfl, b1⟩
    have B1 := BW.trans (b1.mono BW.size)
    have T1 := b1
    obtain ⟨c0, c1⟩ := HK.out _ T1
    clear hW hWs b1 CZ
    go_wp2_with fail
    refine (CT.out _ B1).mono ?_
    rintro e w2 ⟨s2, rfl, O2, b2⟩
    have B2 := B1.trans (b2.mono B1.size)
    have T2 := T1.trans (b2.mono T1.size)
    clear c0 c1 b2 B1 T1
    go_wp2_with fail
    refine (CS.out _ _ B2 O2.rd).mono ?_
    rintro e w3 ⟨x3, rfl, P3, b3⟩
    have B3 := B2.trans (b3.mono B2.size)
    have T3 := T2.trans (b3.mono T2.size)
    have L3 : Hid (∀ g, x3.ownBlock = some g → g < w3.heap.size) := fun g hg => (ownI_lt P3 g hg).2
    obtain ⟨c0, c1⟩ := HK.out _ T3
    clear b3 B2 T2 O2
    go_wp2_with fail
    refine (CT.out _ B3).mono ?_
    rintro e w4 ⟨s, rfl, O4, b4⟩
    have B4 := B3.trans (b4.mono B3.size)
    have T4 := T3.trans (b4.mono T3.size)
    have P4 := ownI_later P3 b4
    have hv := tsh_v s
    have HM : Hid (∀ q ∈ markT s 1, w3.heap.size ≤ q.1.block ∧ q.1.block < w4.heap.size) := O4.blk 1
    have s3 := b4.size
    have t3 := T3.size
    have b3s := B3.size
    clear c0 c1 b4 P3
    have RX : Hid (∀ X, Below w4.heap.size w4 X → RdT X s.v T) := fun X hX => (O4.later hX).rd
    have HCan : Hid (∀ X, Below w4.heap.size w4 X → CanT X s) := fun X hX => (O4.later hX).can HSM.out.1 HSM.out.2
    rw [hv] at RX ⊢
    go_wp2_with fail
    obtain ⟨V, hV⟩ : ∃ V, V = w4.alloc (.cells #[.slice s.a s.n s.c, .slice s.b s.m s.d] 30) := ⟨_, rfl⟩
    have BV : Below w4.heap.size w4 V := by rw [hV]; exact (Below.refl _ _).alloc (Nat.le_refl _) _
    have hVs : V.heap.size = w4.heap.size + 1 := by rw [hV]; simp
    have HX : Hid (∀ X, Below V.heap.size V X → _) := fun X (hX : Below V.heap.size V X) => two_kept w4 30 (.slice s.a s.n s.c) (.slice s.b s.m s.d) X (by rw [hVs, hV] at hX; exact hX)
    have T5 := T4.trans (BV.mono T4.size)
    have B5 := B4.trans (BV.mono B4.size)
    have P5 := ownI_later P4 BV
    rw [← hV]
    refine (CI.out _ _ B5 (RX.out _ BV)).mono ?_
    rintro e w6 ⟨x6, rfl, Q6, b6⟩
    have U6 := BV.trans (b6.mono BV.size)
    have B6 := B5.trans (b6.mono B5.size)
    have T6 := T5.trans (b6.mono T5.size)
    have P6 := ownI_later P5 b6
    have HX6 : Hid (∀ X, Below w6.heap.size w6 X → X.cell? ⟨w4.heap.size, 0, none⟩ = some (.slice s.a s.n s.c) ∧ X.cell? ⟨w4.heap.size, 1, none⟩ = some (.slice s.b s.m s.d)) := fun X hX => HX.out X (b6.trans (hX.mono b6.size))
    clear hV O4 CS T4 T5 B4 B5 HX P4 P5
    go_wp2_with fail
    refine (eqIntS_calls _ _ _ x6 x3 Z Z Q6 P6 HZ.out HZ.out rfl).mono ?_
    rintro e w7 ⟨rfl, b7⟩
    have U7 := U6.trans (b7.mono U6.size)
    have B7 := B6.trans (b7.mono B6.size)
    have T7 := T6.trans (b7.mono T6.size)
    have P7 := ownI_later P6 b7
    have Q7 := ownI_later Q6 b7
    have HVs : Hid (V.heap.size = w4.heap.size + 1) := hVs
    have HS : Hid (∀ X, Below w7.heap.size w7 X → (X.cell? ⟨w.heap.size, 0, none⟩ = some (.slice a0 n0 k0) ∧ X.cell? ⟨w.heap.size, 1, none⟩ = some (.slice a1 n1 k1)) ∧
        X.cell? ⟨w4.heap.size, 0, none⟩ = some (.slice s.a s.n s.c) ∧ X.cell? ⟨w4.heap.size, 1, none⟩ = some (.slice s.b s.m s.d)) :=
      fun X hX => ⟨HK.out X (T7.trans (hX.mono T7.size)), HX6.out X (b7.trans (hX.mono b7.size))⟩
    obtain ⟨⟨c0, c1⟩, x0, x1⟩ := HS.out w7 (Below.refl _ _)
    have HR : Hid (∀ X, Below w7.heap.size w7 X → RdT X _ T) := fun X hX => RX.out X (U7.trans (hX.mono U7.size))
    have HT : Hid (∀ X, Below w7.heap.size w7 X → _) := fun X hX => CT.out X (B7.trans (hX.mono B7.size))
    have D7 : Below w7.heap.size w7 w7.drew := (Below.refl _ _).drew
    have HP7 : Hid (ownI w7 _ x3 Z) := P7
    have HQ7 : Hid (ownI w7 _ x6 Z) := Q7
    have HU7 : Hid (Below w4.heap.size w4 w7) := U7
    have HB7 : Hid (Below w.heap.size w w7) := B7
    have HT7 : Hid (Below W.heap.size W w7) := T7
    have HB3 : Hid (Below w.heap.size w w3) := B3
    have HT3 : Hid (Below W.heap.size W w3) := T3
    have S34 : Hid (w3.heap.size ≤ w4.heap.size) := s3
    clear hVs P6 Q6 P7 Q7 b6 b7 B6 T6 U6 U7 B7 T7 B3 T3 s3 t3 b3s BV RX HX6
    go_wp2_with fail
    go_region_held (fun X => (X.cell? ⟨w.heap.size, 0, none⟩ = some (.slice a0 n0 k0) ∧ X.cell? ⟨w.heap.size, 1, none⟩ = some (.slice a1 n1 k1)) ∧
        X.cell? ⟨w4.heap.size, 0, none⟩ = some (.slice s.a s.n s.c) ∧ X.cell? ⟨w4.heap.size, 1, none⟩ = some (.slice s.b s.m s.d))
      (first | exact HS.out _ B9 | exact HS.out _ B8 | exact HS.out _ D7)
      (first
        | (go_at_call 20; refine (HT.out _ D7).mono ?_; rintro e w8 ⟨s8, rfl, O8, b8⟩; have B8 := D7.trans (b8.mono D7.size))
        | (go_at_call 13; refine (CE.out _ _ _ (HR.out _ B8) O8.rd).mono ?_; rintro e w9 ⟨rfl, b9⟩; have B9 := B8.trans (b9.mono B8.size)))
    all_goals
      clear c0 c1 x0 x1
      obtain ⟨-, x0, x1⟩ := HS.out _ B9
      have P9 := ownI_later HP7.out B9
      have Q9 := ownI_later HQ7.out B9
      have U9 := HU7.out.trans (B9.mono HU7.out.size)
      have Y9 := HB7.out.trans (B9.mono HB7.out.size)
      have T9 := HT7.out.trans (B9.mono HT7.out.size)
      have s9 := U9.size
      have CM : Hid (∀ _ : Unit, _) := fun (_ : Unit) => markTrial_st w9 s 1 (HCan.out _ U9) (by omega) (by omega) (fun q hq => Nat.lt_of_lt_of_le (HM.out q hq).2 s9)
      rw [hv] at CM
      have hk0 : (0 : Int) ≤ 1 + (s.n : Int) + (s.m : Int) := by omega
      generalize (1 : Int) + (s.n : Int) + (s.m : Int) = K at CM hk0
      generalize markT s 1 = L at CM HM
      clear HCan HS HR HT b8 O8 b9 B8
      go_wp2_with fail
      refine (CM.out ()).mono ?_
      rintro e w10 ⟨rfl, b10⟩
      have hss : (stores w9 L).heap.size = w9.heap.size := stores_size _ _
      have N10 : Below w3.heap.size w9 w10 := (stores_below L (fun q hq => (HM.out q hq).1) w9 (Below.refl _ _)).trans (b10.mono (Nat.le_trans S34.out s9))
      have P10 := ownI_below P9 N10 L3.out
      have Q10 := ownI_later (ownI_stores L Q9 (fun q hq g hg e => by have h1 := (HM.out q hq).2; have h2 := (ownI_lt Q9 g hg).1; rw [HVs.out] at h2; omega)) (by rw [hss]; exact b10)
      have Y10 := Y9.trans (N10.mono HB3.out.size)
      have T10 := T9.trans (N10.mono HT3.out.size)
      clear hss b10 CM P9 Q9 N10 x0 x1 T9 Y9
      go_wp2_with fail
      refine (eqIntS_calls _ _ _ x6 x3 Z Z Q10 P10 HZ.out HZ.out rfl).mono ?_
      rintro e w11 ⟨rfl, b11⟩
      have P11 := ownI_later P10 b11
      have Q11 := ownI_later Q10 b11
      have Y11 := Y10.trans (b11.mono Y10.size)
      have T11 := T10.trans (b11.mono T10.size)
      clear P10 Q10 Y10 T10 b11
      go_wp2_with fail
      refine (markIntS_calls _ _ x6 Z 1 Q11 HZ.out (by omega) (by omega)).mono ?_
      rintro e w12 ⟨rfl, Q12, b12⟩
      rw [Hn.out] at Q12 ⊢
      have bb : w3.heap.size ≤ V.heap.size := by rw [HVs.out]; have := S34.out; omega
      have P12 := ownI_below P11 b12 (fun g hg => Nat.lt_of_lt_of_le (L3.out g hg) bb)
      have Y12 := Y11.trans (b12.mono (Nat.le_trans HB3.out.size bb))
      have T12 := T11.trans (b12.mono (Nat.le_trans HT3.out.size bb))
      obtain ⟨c0, c1⟩ := HK.out _ T12
      clear P11 Q11 Y11 T11 b12 bb
      go_wp2_with fail
      refine (heldIntS_calls _ _ x6 n 1 Q12 hZ (by omega) (by omega)).mono ?_
      rintro e w13 ⟨rfl, hw13⟩
      subst hw13
      go_wp2_with fail
      refine (CT.out _ Y12).mono ?_
      rintro e w14 ⟨s14, rfl, O14, b14⟩
      have P14 := ownI_later P12 b14
      have Q14 := ownI_later Q12 b14
      have Y14 := Y12.trans (b14.mono Y12.size)
      clear P12 Q12 Y12 T12 b14 c0 c1
      go_wp2_with fail
      refine (CI.out _ _ Y14 O14.rd).mono ?_
      rintro e w15 ⟨x15, rfl, O15, b15⟩
      have P15 := ownI_later P14 b15
      have Q15 := ownI_later Q14 b15
      have Y15 := Y14.trans (b15.mono Y14.size)
      clear P14 Q14 Y14 b15 O14
      go_wp2_with fail
      refine (eqIntS_calls _ _ _ x15 x3 Z Z O15 P15 HZ.out HZ.out rfl).mono ?_
      rintro e w16 ⟨rfl, b16⟩
      have Q16 := ownI_later Q15 b16
      have Y16 := Y15.trans (b16.mono Y15.size)
      clear P15 Q15 O15 Y15 b16
      go_wp2_with fail
      refine (heldIntS_calls _ _ x6 n 1 Q16 hZ (by omega) (by omega)).mono ?_
      rintro e w17 ⟨rfl, hw17⟩
      subst hw17
      go_wp2
      go_ret
      exact ⟨rfl, Y16⟩

end Go.Proofs.Ytjhceoejblmihaa
