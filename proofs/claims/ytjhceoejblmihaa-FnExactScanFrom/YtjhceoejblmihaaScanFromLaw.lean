/- The law on ScanFrom, walked over any two ScanFrom that answer one trial in memory of its own. -/
import Derived.Test.YtjhceoejblmihaaTrialLawOps
import Derived.Deep.RegionHeld
namespace Go.Proofs.Ytjhceoejblmihaa
open Go.RowKit
set_option linter.unusedVariables false
set_option maxRecDepth 100000

set_option maxHeartbeats 16000000 in
theorem scanFrom_law (v u : Value) (H : HeapD) (T : TrialD) (z0 : Int) (w : World) (r : RdH w v H) (y : SaneH H) (rt : RdT w u T) (yt : SaneT T) (G : TrialD) (hG : SmallH H → SmallT T → G.counts.length ≤ 16777216 ∧ G.colors.length ≤ 16777216)
    (hS : SmallH H → SmallT T → ∀ X a b, RdH X a H → RdT X b T → Calls Try.prog 27 #[a, b, .int .i64 z0] X fun e w' => ∃ s : TSh, e = .returned s.v ∧ TM w' X.heap.size s G ∧ Below X.heap.size X w')
    (hI : SmallH H → SmallT T → ∀ X a b, RdH X a H → RdT X b T → Calls Try.prog 28 #[a, b, .int .i64 z0] X fun e w' => ∃ s : TSh, e = .returned s.v ∧ TM w' X.heap.size s G ∧ Below X.heap.size X w') :
    Calls Try.prog 6 #[v, u, .int .i64 z0] w fun e w' => e = .returned (.bool true) ∧ Below w.heap.size w w' := by
  have R : Hid (∀ X, Below w.heap.size w X → RdH X v H) := fun X hX => rdH_later r hX
  have RT : Hid (∀ X, Below w.heap.size w X → RdT X u T) := fun X hX => rdT_later rt hX
  have CZ : Hid (∀ X, Below w.heap.size w X → _) := fun X hX => szHeap_calls X v H 1048576 (R.out X hX) y (by omega) (by omega)
  have VH : Hid (∃ a0 n0 k0 a1 n1 k1 a2 n2 k2 a3 n3 k3, v = .agg #[.slice a0 n0 k0, .slice a1 n1 k1, .slice a2 n2 k2, .slice a3 n3 k3]) := rdH_form r
  have VT : Hid (∃ a0 n0 k0 a1 n1 k1, u = .agg #[.slice a0 n0 k0, .slice a1 n1 k1]) := rdT_form rt
  have hzl := szH_le1 H
  clear r rt
  obtain ⟨a0, n0, k0, a1, n1, k1, a2, n2, k2, a3, n3, k3, rfl⟩ := VH.out
  obtain ⟨b0, m0, j0, b1, m1, j1, rfl⟩ := VT.out
  obtain ⟨W, hW⟩ : ∃ W, W = (w.alloc (.cells #[.slice a0 n0 k0, .slice a1 n1 k1, .slice a2 n2 k2, .slice a3 n3 k3] 27)).alloc (.cells #[.slice b0 m0 j0, .slice b1 m1 j1] 42) := ⟨_, rfl⟩
  have BW : Below w.heap.size w W := by rw [hW]; exact ((Below.refl _ _).alloc (Nat.le_refl _) _).alloc (by simp) _
  have hWs : W.heap.size = w.heap.size + 2 := by rw [hW]; simp
  have HK : Hid (∀ X, Below W.heap.size W X → (X.cell? ⟨w.heap.size, 0, none⟩ = some (.slice a0 n0 k0) ∧ X.cell? ⟨w.heap.size, 1, none⟩ = some (.slice a1 n1 k1) ∧ X.cell? ⟨w.heap.size, 2, none⟩ = some (.slice a2 n2 k2) ∧ X.cell? ⟨w.heap.size, 3, none⟩ = some (.slice a3 n3 k3)) ∧ X.cell? ⟨w.heap.size + 1, 0, none⟩ = some (.slice b0 m0 j0) ∧ X.cell? ⟨w.heap.size + 1, 1, none⟩ = some (.slice b1 m1 j1)) := fun X hX => by
    rw [hWs] at hX
    have hb1 : Below (w.heap.size + 1) (w.alloc (.cells #[.slice a0 n0 k0, .slice a1 n1 k1, .slice a2 n2 k2, .slice a3 n3 k3] 27)) W := by rw [hW]; exact (Below.refl _ _).alloc (by simp) _
    refine ⟨four_kept w 27 (.slice a0 n0 k0) (.slice a1 n1 k1) (.slice a2 n2 k2) (.slice a3 n3 k3) X (hb1.trans (hX.mono (by omega))), ?_⟩
    have f := two_kept (w.alloc (.cells #[.slice a0 n0 k0, .slice a1 n1 k1, .slice a2 n2 k2, .slice a3 n3 k3] 27)) 42 (.slice b0 m0 j0) (.slice b1 m1 j1) X (by rw [hW] at hX; simpa using hX)
    simpa using f
  have HWB : Hid (∀ X, Below W.heap.size W X → Below w.heap.size w X) := fun X hX => BW.trans (hX.mono BW.size)
  by_cases hz : szH H 1048576 < 0
  · clear hS hI hG
    generalize szH H 1048576 = z at *
    go_enter Try.func6, Try.ntmps6
    go_wp2_with fail
    rw [← hW]
    clear hW
    refine (CZ.out _ BW).mono ?_
    rintro e w1 ⟨rfl, b1⟩
    have B1 := BW.trans (b1.mono BW.size)
    clear BW b1
    go_wp2
    go_ret
    exact ⟨rfl, B1⟩
  have hsm := szH_small H hz
  have CY : Hid (∀ X, Below w.heap.size w X → _) := fun X hX => szTrial_calls X _ T (szH H 1048576) (RT.out X hX) yt (by omega) hzl
  have hst0 : ¬ szT T (szH H 1048576) < 0 → SmallT T := fun h => szT_small T hzl h
  generalize szH H 1048576 = z at *
  have hz2 : 0 ≤ z := by omega
  by_cases hzt : szT T z < 0
  · clear hS hI hG hst0
    generalize szT T z = zt at *
    go_enter Try.func6, Try.ntmps6
    go_wp2_with fail
    rw [← hW]
    refine (CZ.out _ BW).mono ?_
    rintro e w1 ⟨rfl, T1⟩
    obtain ⟨-, t0, t1⟩ := HK.out _ T1
    have B1 := HWB.out _ T1
    clear hW BW
    go_wp2_with fail
    refine (CY.out _ B1).mono ?_
    rintro e w2 ⟨rfl, b2⟩
    have B2 := B1.trans (b2.mono B1.size)
    clear t0 t1
    go_wp2
    go_ret
    exact ⟨rfl, B2⟩
  have hst := hst0 hzt
  have CT : Hid (∀ X, Below w.heap.size w X → _) := fun X hX => toHeap_calls X _ H (R.out X hX) hsm
  have CU : Hid (∀ X, Below w.heap.size w X → _) := fun X hX => toTrial_calls X _ T (RT.out X hX) hst
  have CE : Hid (∀ X u1 u2, RdH X u1 H → RdH X u2 H → _) := fun X u1 u2 h1 h2 => eqHeap_calls X u1 u2 H h1 h2 hsm
  have hTl : T.counts.length ≤ 16777216 ∧ T.colors.length ≤ 16777216 := ⟨by have := hst.counts; omega, by have := hst.colors; omega⟩
  have CF : Hid (∀ X u1 u2, RdT X u1 T → RdT X u2 T → Calls Try.prog 13 #[u1, u2] X fun e w' => e = .returned (.bool true) ∧ Below X.heap.size X w') := fun X u1 u2 h1 h2 => eqTrial_calls X u1 u2 T h1 h2 hTl.1 hTl.2
  have CG : Hid (∀ X u1 u2, RdT X u1 G → RdT X u2 G → Calls Try.prog 13 #[u1, u2] X fun e w' => e = .returned (.bool true) ∧ Below X.heap.size X w') := fun X u1 u2 h1 h2 => eqTrial_calls X u1 u2 G h1 h2 (hG hsm hst).1 (hG hsm hst).2
  have CS : Hid (∀ X a b, RdH X a H → RdT X b T → _) := hS hsm hst
  have CI : Hid (∀ X a b, RdH X a H → RdT X b T → _) := hI hsm hst
  have HGL : Hid _ := hG hsm hst
  have HTL : Hid (T.counts.length ≤ 16777216 ∧ T.colors.length ≤ 16777216) := hTl
  have HC : Hid (∀ X B u, OwnH X B u H → ∃ s : HSh, u = s.v ∧ CanH X s ∧ ∀ q ∈ markL s, B ≤ q.1.block) := fun X B u h => ownH_can h hsm
  clear hS hI hsm hG hst hst0 hTl
  generalize szT T z = zt at *
  have hzt2 : 0 ≤ zt := by omega
  have Hws : Hid (W.heap.size = w.heap.size + 2) := hWs
  clear VH VT R RT hz hzt hzl hWs
  go_enter Try.func6, Try.ntmps6
  go_wp2_with fail
  rw [← hW]
  refine (CZ.out _ BW).mono ?_
  rintro e w1 ⟨rfl, T1⟩
  obtain ⟨-, t0, t1⟩ := HK.out _ T1
  have B1 := HWB.out _ T1
  clear hW CZ BW
  go_wp2_with fail
  refine (CY.out _ B1).mono ?_
  rintro e w2 ⟨rfl, b2⟩
  have T2 := T1.trans (b2.mono T1.size)
  have HKB : Hid (∀ X, Below w2.heap.size w2 X → _) := fun X (hX : Below w2.heap.size w2 X) => HK.out X (T2.trans (hX.mono T2.size))
  have HBB : Hid (∀ X, Below w2.heap.size w2 X → Below w.heap.size w X) := fun X hX => HWB.out X (T2.trans (hX.mono T2.size))
  have HT2 : Hid (∀ X, Below w2.heap.size w2 X → Below W.heap.size W X) := fun X hX => T2.trans (hX.mono T2.size)
  clear t0 t1 B1 T1 b2 CY T2
  go_wp2
  refine wp_region_last 7 (by kernel_rfl) (by kernel_rfl) (RL w2.heap.size (.agg #[.slice a0 n0 k0, .slice a1 n1 k1, .slice a2 n2 k2, .slice a3 n3 k3]) (.agg #[.slice b0 m0 j0, .slice b1 m1 j1]) (.int .i64 z0) H T G) rl_mono ?_ ?_
  · intro i o hi ho a X hX hA hdep
    have hXs := hX.size
    obtain ⟨⟨q0, q1, q2, q3⟩, r0, r1⟩ := HKB.out X hX
    have hXw := HBB.out X hX
    match i, hi, ho with
    | 0, _, ho =>
      obtain rfl := Option.some.inj ho
      exact opLoadLH (alike_at hA (t := 3) (by kernel_rfl)) q0 q1 q2 q3 ⟨_, rfl, Below.refl _ _, rfl⟩
    | 1, _, ho =>
      obtain rfl := Option.some.inj ho
      have e1 : a.eval (.tmp 26) = .agg #[.slice a0 n0 k0, .slice a1 n1 k1, .slice a2 n2 k2, .slice a3 n3 k3] := hdep ⟨0, .data⟩ (by simp) rfl 26 rfl
      refine opToH e1 (CT.out X hXw) ?_
      rintro e w' ⟨x, rfl, hx, hb⟩
      exact ⟨x, rfl, _, rfl, hb, ownH_rd hx⟩
    | 2, _, ho =>
      obtain rfl := Option.some.inj ho
      exact opLoadLT (alike_at hA (t := 4) (by kernel_rfl)) r0 r1 ⟨_, rfl, Below.refl _ _, rfl⟩
    | 3, _, ho =>
      obtain rfl := Option.some.inj ho
      have e1 : a.eval (.tmp 28) = .agg #[.slice b0 m0 j0, .slice b1 m1 j1] := hdep ⟨2, .data⟩ (by simp) rfl 28 rfl
      refine opToT e1 (CU.out X hXw) ?_
      rintro e w' ⟨x, rfl, hx, hb⟩
      exact ⟨_, rfl, _, rfl, hb, x, rfl, hx.mono hXs⟩
    | 4, _, ho =>
      obtain rfl := Option.some.inj ho
      exact opMove (alike_at hA (t := 2) (by kernel_rfl)) ⟨_, rfl, Below.refl _ _, rfl⟩
    | 5, _, ho =>
      obtain rfl := Option.some.inj ho
      have e1 := hdep ⟨1, .data⟩ (by simp) rfl 27 rfl
      obtain ⟨sT, e2, hT⟩ := hdep ⟨3, .data⟩ (by simp) rfl 29 rfl
      have e3 : a.eval (.tmp 30) = .int .i64 z0 := hdep ⟨4, .data⟩ (by simp) rfl 30 rfl
      refine opSpecScanFrom rfl e2 e3 (CS.out X _ _ e1 hT.rd) ?_
      rintro e w' ⟨x, rfl, hx, hb⟩
      exact ⟨_, rfl, _, rfl, hb, x, rfl, hx.mono hXs⟩
    | 6, _, ho =>
      obtain rfl := Option.some.inj ho
      exact opAllocT ⟨_, rfl, (Below.refl _ _).alloc (Nat.le_refl _) _, X.heap.size, rfl, hXs, Two.new X _ _⟩
  · intro o ho a X hX hA hdep
    obtain rfl := Option.some.inj ho
    obtain ⟨sW, e5, hT5⟩ := hdep ⟨5, .data⟩ (by simp) rfl 31 rfl
    obtain ⟨g, e8, hgB, hTw⟩ := hdep ⟨6, .data⟩ (by simp) rfl 8 rfl
    rw [tsh_v] at e5
    refine opStoreT e8 e5 hTw ?_
    have hne : ∀ (v : Value) (zs : List Int), ownI X w2.heap.size v zs → v.ownBlock ≠ some g := fun v zs hv => own_two_ne hv hTw
    have AT : TM (setTwo X g (.slice sW.a sW.n sW.c) (.slice sW.b sW.m sW.d)) w2.heap.size sW G := ⟨ownI_same hT5.x (fun i hi => setTwo_other _ _ _ _ i (fun e => hne _ _ hT5.x (e ▸ hi))), ownI_same hT5.y (fun i hi => setTwo_other _ _ _ _ i (fun e => hne _ _ hT5.y (e ▸ hi))), hT5.dif⟩
    have AW : Two (setTwo X g (.slice sW.a sW.n sW.c) (.slice sW.b sW.m sW.d)) g (.slice sW.a sW.n sW.c) (.slice sW.b sW.m sW.d) := two_set hTw _ _
    have sV := setTwo_size X g (.slice sW.a sW.n sW.c) (.slice sW.b sW.m sW.d)
    have hXs := hX.size
    have bV : Below w2.heap.size w2 (setTwo X g (.slice sW.a sW.n sW.c) (.slice sW.b sW.m sW.d)) := by
      unfold setTwo
      exact ((hX.setCell (p := ⟨g, 0, none⟩) hgB _).setCell (p := ⟨g, 1, none⟩) hgB _)
    obtain ⟨us, hus, rfl⟩ := alike_tmps hA [26, 27, 28, 29, 30, 31, 8] (by kernel_rfl)
    have u8 : us 8 = .pointer (some ⟨g, 0, none⟩) := (hus 8).symm.trans e8
    have hgl : g < (setTwo X g (.slice sW.a sW.n sW.c) (.slice sW.b sW.m sW.d)).heap.size := by rw [sV]; exact hTw.lt
    clear hdep hA hus e5 e8 hTw ho hne hT5 sV hXs hX
    generalize setTwo X g (.slice sW.a sW.n sW.c) (.slice sW.b sW.m sW.d) = V3 at *
    simp only [List.mapIdx_cons, List.mapIdx_nil, Nat.reduceAdd, List.contains_cons, List.contains_nil, Nat.reduceBEq, Bool.or_false, Bool.or_true, if_true, if_false, Bool.false_eq_true]
    rw [u8]
    clear u8
    have AT3 : Hid (TM V3 w2.heap.size sW G) := AT
    have HX6 : Hid (∀ X, Below V3.heap.size V3 X → Two X g (.slice sW.a sW.n sW.c) (.slice sW.b sW.m sW.d)) := fun X hX => AW.later hX hgl
    have HRW : Hid (∀ X, Below V3.heap.size V3 X → RdT X (.agg #[.slice sW.a sW.n sW.c, .slice sW.b sW.m sW.d]) G) := fun X hX => rdT_later AT.rd hX
    have TV3 := HT2.out _ bV
    have HT3 : Hid (∀ X, Below V3.heap.size V3 X → Below W.heap.size W X) := fun X hX => TV3.trans (hX.mono TV3.size)
    obtain ⟨⟨c0, c1, c2, c3⟩, -⟩ := HK.out _ TV3
    have HGL3 : Hid (g < V3.heap.size) := hgl
    clear AT AW bV hgl HKB HBB HT2 CS AT3
    go_wp2_with fail
    refine (CT.out _ (HWB.out _ TV3)).mono ?_
    rintro e w4 ⟨u4, rfl, O4, b4⟩
    have hs4 := b4.size
    obtain ⟨s4, hus, K4, M4⟩ := HC.out _ _ _ O4
    have HR4 : Hid (∀ X, Below w4.heap.size w4 X → RdH X u4 H) := fun X hX => ownH_rd (ownH_later O4 hX)
    have HM4 : Hid (∀ q ∈ markL s4, V3.heap.size ≤ q.1.block ∧ q.1.block < w4.heap.size) := fun q hq => ⟨M4 q hq, (markL_lt K4 q hq).1⟩
    have HK4 : Hid (CanH w4 s4) := K4
    subst hus
    obtain ⟨V4, hV4⟩ : ∃ V, V = w4.alloc (.cells #[.slice s4.oa s4.os.length s4.oc, .slice s4.wa s4.wn s4.wc, .slice s4.ba s4.bn s4.bc, .slice s4.sa s4.sn s4.sc] 35) := ⟨_, rfl⟩
    have BV4 : Below w4.heap.size w4 V4 := by rw [hV4]; exact (Below.refl _ _).alloc (Nat.le_refl _) _
    have hV4s : V4.heap.size = w4.heap.size + 1 := by rw [hV4]; simp
    have F4 : Four V4 w4.heap.size (.slice s4.oa s4.os.length s4.oc) (.slice s4.wa s4.wn s4.wc) (.slice s4.ba s4.bn s4.bc) (.slice s4.sa s4.sn s4.sc) := by rw [hV4]; exact Four.new w4 _ _ _ _
    have HX7 : Hid (∀ X, Below V4.heap.size V4 X → Four X w4.heap.size (.slice s4.oa s4.os.length s4.oc) (.slice s4.wa s4.wn s4.wc) (.slice s4.ba s4.bn s4.bc) (.slice s4.sa s4.sn s4.sc)) := fun X hX => F4.later hX
    have A4 : Below V3.heap.size V3 V4 := b4.trans (BV4.mono b4.size)
    have HB4 : Hid (∀ X, Below V4.heap.size V4 X → Below w4.heap.size w4 X) := fun X hX => BV4.trans (hX.mono BV4.size)
    have hv4 : s4.v = .agg #[.slice s4.oa s4.os.length s4.oc, .slice s4.wa s4.wn s4.wc, .slice s4.ba s4.bn s4.bc, .slice s4.sa s4.sn s4.sc] := rfl
    rw [hv4]
    rw [hv4] at HR4
    have TV4 := HT3.out _ A4
    obtain ⟨-, t0, t1⟩ := HK.out _ (HT3.out _ b4)
    have hq4 : w.heap.size + 1 < w4.heap.size := by have := (HT3.out _ b4).size; have := Hws.out; omega
    have hn4 : ¬ w.heap.size + 1 = w4.heap.size := by omega
    clear O4 K4 M4 b4 HC c0 c1 c2 c3 BV4 F4
    go_wp2_with fail
    rw [← hV4]
    clear hV4 t0 t1
    refine (CU.out _ (HWB.out _ TV4)).mono ?_
    rintro e w5 ⟨s5, rfl, M5, b5⟩
    have hs5 := b5.size
    have A5 : Below V3.heap.size V3 w5 := A4.trans (b5.mono A4.size)
    obtain ⟨V5, hV5⟩ : ∃ V, V = w5.alloc (.cells #[.slice s5.a s5.n s5.c, .slice s5.b s5.m s5.d] 30) := ⟨_, rfl⟩
    have BV5 : Below w5.heap.size w5 V5 := by rw [hV5]; exact (Below.refl _ _).alloc (Nat.le_refl _) _
    have hV5s : V5.heap.size = w5.heap.size + 1 := by rw [hV5]; simp
    have F5 : Two V5 w5.heap.size (.slice s5.a s5.n s5.c) (.slice s5.b s5.m s5.d) := by rw [hV5]; exact Two.new w5 _ _
    have C5 : Below V4.heap.size V4 V5 := b5.trans (BV5.mono b5.size)
    have A5v : Below V3.heap.size V3 V5 := A4.trans (C5.mono A4.size)
    have HM5 : Hid (∀ X, Below V5.heap.size V5 X → TM X V4.heap.size s5 T) := fun X hX => (M5.later BV5).later hX
    have HL5 : Hid (∀ q ∈ markT s5 ((s4.k3 : Int) + (s4.sn : Int)), V4.heap.size ≤ q.1.block ∧ q.1.block < w5.heap.size) := M5.blk _
    have HX8 : Hid (∀ X, Below V5.heap.size V5 X → Two X w5.heap.size (.slice s5.a s5.n s5.c) (.slice s5.b s5.m s5.d)) := fun X hX => F5.later hX (by omega)
    have HX7b : Hid (∀ X, Below V5.heap.size V5 X → Four X w4.heap.size (.slice s4.oa s4.os.length s4.oc) (.slice s4.wa s4.wn s4.wc) (.slice s4.ba s4.bn s4.bc) (.slice s4.sa s4.sn s4.sc)) := fun X hX => HX7.out X (C5.trans (hX.mono C5.size))
    have HR5 : Hid (∀ X, Below V5.heap.size V5 X → RdH X (.agg #[.slice s4.oa s4.os.length s4.oc, .slice s4.wa s4.wn s4.wc, .slice s4.ba s4.bn s4.bc, .slice s4.sa s4.sn s4.sc]) H) := fun X hX => HR4.out X (HB4.out X (C5.trans (hX.mono C5.size)))
    have HK5 : Hid (∀ X, Below V5.heap.size V5 X → CanH X s4) := fun X hX => canH_later HK4.out (HB4.out X (C5.trans (hX.mono C5.size)))
    have HT5 : Hid (∀ X, Below V5.heap.size V5 X → Below V3.heap.size V3 X) := fun X hX => A5v.trans (hX.mono A5v.size)
    have hv5 := tsh_v s5
    have R5 := (HM5.out V5 (Below.refl _ _)).rd
    have HRT5 : Hid (∀ X, Below V5.heap.size V5 X → RdT X s5.v T) := fun X hX => (HM5.out X hX).rd
    rw [hv5] at HRT5 ⊢
    have f5 := HX7b.out V5 (Below.refl _ _)
    have e0 := f5.cell 0
    have e1 := f5.cell 1
    have e2 := f5.cell 2
    have e3 := f5.cell 3
    simp only [List.getElem?_toArray, List.getElem?_cons_zero, List.getElem?_cons_succ] at e0 e1 e2 e3
    rw [hV5] at e0 e1 e2 e3
    have A5h : Hid (Below V3.heap.size V3 V5) := A5v
    have hgw5 : V4.heap.size ≤ w5.heap.size := hs5
    clear M5 b5 BV5 F5 C5 A5 A5v R5 f5 HX7 HR4 HK4 HB4 A4
    go_wp2_with fail
    rw [← hV5]
    clear hV5 e0 e1 e2 e3
    refine (CI.out _ _ _ (HR5.out _ (Below.refl _ _)) (HRT5.out _ (Below.refl _ _))).mono ?_
    rintro e w6 ⟨sG, rfl, M6, b6⟩
    have hs6 := b6.size
    have hvG := tsh_v sG
    obtain ⟨V6, hV6⟩ : ∃ V, V = w6.alloc (.cells #[.slice sG.a sG.n sG.c, .slice sG.b sG.m sG.d] 30) := ⟨_, rfl⟩
    have BV6 : Below w6.heap.size w6 V6 := by rw [hV6]; exact (Below.refl _ _).alloc (Nat.le_refl _) _
    have hV6s : V6.heap.size = w6.heap.size + 1 := by rw [hV6]; simp
    have F6 : Two V6 w6.heap.size (.slice sG.a sG.n sG.c) (.slice sG.b sG.m sG.d) := by rw [hV6]; exact Two.new w6 _ _
    have C6 : Below V5.heap.size V5 V6 := b6.trans (BV6.mono b6.size)
    have HM6 : Hid (TM V6 V5.heap.size sG G) := M6.later BV6
    have HMo : Hid (∀ q ∈ markT sG 1, q.1.block < w6.heap.size) := fun q hq => (M6.blk 1 q hq).2
    have HF6 : Hid (Two V6 w6.heap.size (.slice sG.a sG.n sG.c) (.slice sG.b sG.m sG.d)) := F6
    have HC6 : Hid (Below V5.heap.size V5 V6) := C6
    have x6 := HX6.out _ (HT5.out _ b6)
    have d0 := x6.cell 0
    have d1 := x6.cell 1
    simp only [List.getElem?_toArray, List.getElem?_cons_zero, List.getElem?_cons_succ] at d0 d1
    have hq6 : g < w6.heap.size := by have := HGL3.out; have := (HT5.out _ b6).size; omega
    have hn6 : ¬ g = w6.heap.size := by omega
    have HRG : Hid (RdT V6 (.agg #[.slice sG.a sG.n sG.c, .slice sG.b sG.m sG.d]) G) := HM6.out.rd
    rw [hvG]
    clear M6 b6 BV6 F6 C6 x6 TV3 TV4
    go_wp2_with fail
    rw [← hV6]
    clear hV6 d0 d1
    refine (CG.out _ _ _ HRG.out (HRW.out _ (HT5.out _ HC6.out))).mono ?_
    rintro e w7 ⟨rfl, b7⟩
    have hs7 := b7.size
    have C7 : Below V5.heap.size V5 w7 := HC6.out.trans (b7.mono HC6.out.size)
    have HC7 : Hid (∀ X, Below w7.heap.size w7 X → Below V5.heap.size V5 X) := fun X hX => C7.trans (hX.mono C7.size)
    have HB7 : Hid (Below V6.heap.size V6 w7) := b7
    have HS : Hid (∀ X, Below w7.heap.size w7 X → (X.cell? ⟨w.heap.size, 0, none⟩ = some (.slice a0 n0 k0) ∧ X.cell? ⟨w.heap.size, 1, none⟩ = some (.slice a1 n1 k1) ∧ X.cell? ⟨w.heap.size, 2, none⟩ = some (.slice a2 n2 k2) ∧ X.cell? ⟨w.heap.size, 3, none⟩ = some (.slice a3 n3 k3)) ∧
        X.cell? ⟨w4.heap.size, 0, none⟩ = some (.slice s4.oa s4.os.length s4.oc) ∧ X.cell? ⟨w4.heap.size, 1, none⟩ = some (.slice s4.wa s4.wn s4.wc) ∧ X.cell? ⟨w4.heap.size, 2, none⟩ = some (.slice s4.ba s4.bn s4.bc) ∧ X.cell? ⟨w4.heap.size, 3, none⟩ = some (.slice s4.sa s4.sn s4.sc)) := fun X hX => by
      have h7 := HX7b.out X (HC7.out X hX)
      exact ⟨(HK.out X (HT3.out _ (HT5.out _ (HC7.out X hX)))).1, h7.cell 0, h7.cell 1, h7.cell 2, h7.cell 3⟩
    have HRR : Hid (∀ X, Below w7.heap.size w7 X → RdH X _ H) := fun X hX => HR5.out X (HC7.out X hX)
    have HTT : Hid (∀ X, Below w7.heap.size w7 X → _) := fun X hX => CT.out X (HWB.out _ (HT3.out _ (HT5.out _ (HC7.out X hX))))
    obtain ⟨⟨c0, c1, c2, c3⟩, e0, e1, e2, e3⟩ := HS.out w7 (Below.refl _ _)
    have D7 : Below w7.heap.size w7 w7.drew := (Below.refl _ _).drew
    clear b7 C7
    go_wp2_with fail
    go_region_held (fun X => (X.cell? ⟨w.heap.size, 0, none⟩ = some (.slice a0 n0 k0) ∧ X.cell? ⟨w.heap.size, 1, none⟩ = some (.slice a1 n1 k1) ∧ X.cell? ⟨w.heap.size, 2, none⟩ = some (.slice a2 n2 k2) ∧ X.cell? ⟨w.heap.size, 3, none⟩ = some (.slice a3 n3 k3)) ∧
        X.cell? ⟨w4.heap.size, 0, none⟩ = some (.slice s4.oa s4.os.length s4.oc) ∧ X.cell? ⟨w4.heap.size, 1, none⟩ = some (.slice s4.wa s4.wn s4.wc) ∧ X.cell? ⟨w4.heap.size, 2, none⟩ = some (.slice s4.ba s4.bn s4.bc) ∧ X.cell? ⟨w4.heap.size, 3, none⟩ = some (.slice s4.sa s4.sn s4.sc))
      (first | exact HS.out _ B9 | exact HS.out _ B8 | exact HS.out _ D7)
      (first
        | (go_at_call 11; refine (HTT.out _ D7).mono ?_; rintro e w8 ⟨u8, rfl, O8, b8⟩; have B8 := D7.trans (b8.mono D7.size))
        | (go_at_call 14; refine (CE.out _ _ _ (HRR.out _ B8) (ownH_rd O8)).mono ?_; rintro e w9 ⟨rfl, b9⟩; have B9 := B8.trans (b9.mono B8.size)))
    all_goals
      clear c0 c1 c2 c3 e0 e1 e2 e3
      have HB9 : Hid (Below w7.heap.size w7 w9) := B9
      have HS2 : Hid (∀ X, Below w9.heap.size w9 X → (X.cell? ⟨w.heap.size + 1, 0, none⟩ = some (.slice b0 m0 j0) ∧ X.cell? ⟨w.heap.size + 1, 1, none⟩ = some (.slice b1 m1 j1)) ∧ X.cell? ⟨w5.heap.size, 0, none⟩ = some (.slice s5.a s5.n s5.c) ∧ X.cell? ⟨w5.heap.size, 1, none⟩ = some (.slice s5.b s5.m s5.d)) := fun X hX => by
        have hX7 := HC7.out X (HB9.out.trans (hX.mono HB9.out.size))
        have h8 := HX8.out X hX7
        exact ⟨(HK.out X (HT3.out _ (HT5.out _ hX7))).2, h8.cell 0, h8.cell 1⟩
      have HC9 : Hid (∀ X, Below w9.heap.size w9 X → Below V5.heap.size V5 X) := fun X hX => HC7.out X (HB9.out.trans (hX.mono HB9.out.size))
      have HRQ : Hid (∀ X, Below w9.heap.size w9 X → RdT X _ T) := fun X hX => HRT5.out X (HC9.out X hX)
      have HUU : Hid (∀ X, Below w9.heap.size w9 X → _) := fun X hX => CU.out X (HWB.out _ (HT3.out _ (HT5.out _ (HC9.out X hX))))
      obtain ⟨⟨t0, t1⟩, y0, y1⟩ := HS2.out w9 (Below.refl _ _)
      have D9 : Below w9.heap.size w9 w9.drew := (Below.refl _ _).drew
      clear HS HRR HTT b8 O8 b9 B8 B9 D7
      go_wp2_with fail
      go_region_held (fun X => (X.cell? ⟨w.heap.size + 1, 0, none⟩ = some (.slice b0 m0 j0) ∧ X.cell? ⟨w.heap.size + 1, 1, none⟩ = some (.slice b1 m1 j1)) ∧ X.cell? ⟨w5.heap.size, 0, none⟩ = some (.slice s5.a s5.n s5.c) ∧ X.cell? ⟨w5.heap.size, 1, none⟩ = some (.slice s5.b s5.m s5.d))
        (first | exact HS2.out _ E2 | exact HS2.out _ E1 | exact HS2.out _ D9)
        (first
          | (go_at_call 20; refine (HUU.out _ D9).mono ?_; rintro e x1 ⟨q8, rfl, O8, c8⟩; have E1 := D9.trans (c8.mono D9.size))
          | (go_at_call 13; refine (CF.out _ _ _ (HRQ.out _ E1) O8.rd).mono ?_; rintro e x2 ⟨rfl, c9⟩; have E2 := E1.trans (c9.mono E1.size)))
      all_goals
        clear t0 t1 y0 y1
        have hx2 := HC9.out _ E2
        have f7 := HX7b.out _ hx2
        have e0 := f7.cell 0
        have e1 := f7.cell 1
        have e2 := f7.cell 2
        have e3 := f7.cell 3
        simp only [List.getElem?_toArray, List.getElem?_cons_zero, List.getElem?_cons_succ] at e0 e1 e2 e3
        have CM : Hid (∀ _ : Unit, _) := fun (_ : Unit) => markHeap_st x2 s4 (HK5.out _ hx2)
        rw [hv4] at CM
        have hKb : (0 : Int) ≤ (s4.k3 : Int) + (s4.sn : Int) ∧ (s4.k3 : Int) + (s4.sn : Int) ≤ 900000000000000 := by
          have hc := HK5.out _ hx2
          have h1 := cntO_bd s4.os hc.lo hc.lf
          have h2 := hc.lw
          have h3 := hc.lb
          have h4 := hc.ls
          unfold HSh.k3
          omega
        have hs9 := HB9.out.size
        have hE2 := E2.size
        have hx2s := hx2.size
        have B62 : Below V6.heap.size V6 x2 := HB7.out.trans ((HB9.out.trans (E2.mono HB9.out.size)).mono HB7.out.size)
        have HMx : Hid (TM x2 V5.heap.size sG G) := HM6.out.later B62
        have HFx : Hid (Two x2 w6.heap.size (.slice sG.a sG.n sG.c) (.slice sG.b sG.m sG.d)) := HF6.out.later B62 (by omega)
        have HM5x : Hid (TM x2 V4.heap.size s5 T) := HM5.out _ hx2
        have HF8 : Hid (Two x2 w5.heap.size (.slice s5.a s5.n s5.c) (.slice s5.b s5.m s5.d)) := HX8.out _ hx2
        have hB62 := B62.size
        have HAx : Hid (Below V3.heap.size V3 x2) := HT5.out _ hx2
        have hAx := HAx.out.size
        clear HS2 HRQ HUU c8 O8 c9 E1 E2 D9 HB9 HC9 f7 hx2 B62
        generalize hKk : (s4.k3 : Int) + (s4.sn : Int) = K at CM hKb HL5
        generalize markL s4 = L at CM HM4
        clear hKk
        go_wp2_with fail
        refine (CM.out ()).mono ?_
        rintro e w10 ⟨rfl, b10⟩
        have hss : (stores x2 L).heap.size = x2.heap.size := stores_size _ _
        have hs10 : x2.heap.size ≤ w10.heap.size := by rw [← hss]; exact b10.size
        have N10 : Below V3.heap.size x2 w10 := (stores_below L (fun q hq => (HM4.out q hq).1) x2 (Below.refl _ _)).trans (b10.mono hAx)
        have A10 : Below V3.heap.size V3 w10 := HAx.out.trans N10
        have KB : KeepB V4.heap.size x2 w10 := ⟨hs10, fun g hg hl => by
          rw [b10.block g hl, stores_block L g (fun q hq e => by have := (HM4.out q hq).2; omega)]⟩
        have HM10 : Hid (TM w10 V5.heap.size sG G) := HMx.out.same (fun g hg hl => KB.2 g (by omega) hl)
        have HF10 : Hid (Two w10 w6.heap.size (.slice sG.a sG.n sG.c) (.slice sG.b sG.m sG.d)) := HFx.out.same (KB.2 _ (by omega) (by omega))
        have HT10 : Hid (TM w10 V4.heap.size s5 T) := HM5x.out.same KB.2
        have x8 := HF8.out.same (KB.2 _ hgw5 (by omega))
        have y0 := x8.cell 0
        have y1 := x8.cell 1
        simp only [List.getElem?_toArray, List.getElem?_cons_zero, List.getElem?_cons_succ] at y0 y1
        have CN : Hid (∀ _ : Unit, _) := fun (_ : Unit) => markTrial_st w10 s5 K (HT10.out.can HTL.out.1 HTL.out.2) hKb.1 hKb.2 (fun q hq => (HT10.out.blk K q hq).2)
        rw [hv5] at CN
        have hln := HTL.out
        have hlens := HT10.out.lens
        have hk1 : (0 : Int) ≤ K + (s5.n : Int) + (s5.m : Int) := by omega
        have hk1n : ¬ K + (s5.n : Int) + (s5.m : Int) < 0 := by omega
        generalize K + (s5.n : Int) + (s5.m : Int) = K1 at CN hk1 hk1n
        generalize markT s5 K = L1 at CN HL5
        have HA10 : Hid (Below V3.heap.size V3 w10) := A10
        have hA10 := A10.size
        clear hss b10 CM N10 A10 KB x8 e0 e1 e2 e3 HMx HFx HM5x HF8 HAx hln hlens
        go_wp2_with fail
        refine (CN.out ()).mono ?_
        rintro e w11 ⟨rfl, b11⟩
        have hss : (stores w10 L1).heap.size = w10.heap.size := stores_size _ _
        have hs11 : w10.heap.size ≤ w11.heap.size := by rw [← hss]; exact b11.size
        have N11 : Below V3.heap.size w10 w11 := (stores_below L1 (fun q hq => Nat.le_trans (by omega) (HL5.out q hq).1) w10 (Below.refl _ _)).trans (b11.mono hA10)
        have A11 : Below V3.heap.size V3 w11 := HA10.out.trans N11
        have KB : KeepB V5.heap.size w10 w11 := ⟨hs11, fun g hg hl => by
          rw [b11.block g hl, stores_block L1 g (fun q hq e => by have := (HL5.out q hq).2; omega)]⟩
        have HM11 : Hid (TM w11 V5.heap.size sG G) := HM10.out.same KB.2
        have F11 := HF10.out.same (KB.2 w6.heap.size (by omega) (by omega))
        have HF11 : Hid (Two w11 w6.heap.size (.slice sG.a sG.n sG.c) (.slice sG.b sG.m sG.d)) := F11
        have g0 := F11.cell 0
        have g1 := F11.cell 1
        have x6 := HX6.out _ A11
        have d0 := x6.cell 0
        have d1 := x6.cell 1
        simp only [List.getElem?_toArray, List.getElem?_cons_zero, List.getElem?_cons_succ] at d0 d1 g0 g1
        have HRG2 : Hid (RdT w11 (.agg #[.slice sG.a sG.n sG.c, .slice sG.b sG.m sG.d]) G) := HM11.out.rd
        have HA11 : Hid (Below V3.heap.size V3 w11) := A11
        clear hss b11 CN N11 KB x6 F11 y0 y1 HM10 HF10 HT10 A11
        go_wp2_with fail
        refine (CG.out _ _ _ HRG2.out (HRW.out _ HA11.out)).mono ?_
        rintro e w12 ⟨rfl, b12⟩
        have hs12 := b12.size
        have M12 := HM11.out.later b12
        have F12 := HF11.out.later b12 (by omega)
        have hA11 := HA11.out.size
        have A12 : Below V3.heap.size V3 w12 := HA11.out.trans (b12.mono hA11)
        have CM : Hid (∀ _ : Unit, _) := fun (_ : Unit) => markTrial_st w12 sG 1 (M12.can HGL.out.1 HGL.out.2) (by omega) (by omega) (fun q hq => (M12.blk 1 q hq).2)
        have HLT : Hid (∀ q ∈ markT sG 1, V5.heap.size ≤ q.1.block ∧ q.1.block ≠ w6.heap.size) := fun q hq => ⟨(M12.blk 1 q hq).1, fun e => by have := HMo.out q hq; omega⟩
        have HH : Hid (∀ X, Below w12.heap.size (stores w12 (markT sG 1)) X → HeldT X sG 1) := fun X hX => M12.held HGL.out.1 HGL.out.2 hX
        have hcn := M12.can HGL.out.1 HGL.out.2
        have CH : Hid (∀ X, HeldT X sG 1 → _) := fun X hX => heldTrial_at X sG 1 hX hcn.ln hcn.lm (by omega) (by omega)
        have hk2 : ¬ (1 : Int) + (sG.n : Int) + (sG.m : Int) < 0 := by omega
        rw [hvG] at CM CH
        generalize (1 : Int) + (sG.n : Int) + (sG.m : Int) = K2 at CM CH hk2
        generalize markT sG 1 = L2 at CM HLT HH
        clear d0 d1 g0 g1 hcn
        have g0 := F12.cell 0
        have g1 := F12.cell 1
        simp only [List.getElem?_toArray, List.getElem?_cons_zero, List.getElem?_cons_succ] at g0 g1
        have HF12 : Hid (Two w12 w6.heap.size (.slice sG.a sG.n sG.c) (.slice sG.b sG.m sG.d)) := F12
        have HA12 : Hid (Below V3.heap.size V3 w12) := A12
        clear M12 F12 b12 HM11 HF11 HRG2 A12 HMo
        go_wp2_with fail
        refine (CM.out ()).mono ?_
        rintro e w13 ⟨rfl, b13⟩
        have hss : (stores w12 L2).heap.size = w12.heap.size := stores_size _ _
        have hs13 : w12.heap.size ≤ w13.heap.size := by rw [← hss]; exact b13.size
        have hA12 := HA12.out.size
        have N13 : Below V3.heap.size w12 w13 := (stores_below L2 (fun q hq => Nat.le_trans (by omega) (HLT.out q hq).1) w12 (Below.refl _ _)).trans (b13.mono hA12)
        have A13 : Below V3.heap.size V3 w13 := HA12.out.trans N13
        have HH13 : Hid (HeldT w13 sG 1) := HH.out _ b13
        have F13 := HF12.out.same (Y := w13) (by rw [b13.block _ (by omega), stores_block L2 _ (fun q hq => (HLT.out q hq).2)])
        have HF13 : Hid (∀ X, Below w13.heap.size w13 X → Two X w6.heap.size (.slice sG.a sG.n sG.c) (.slice sG.b sG.m sG.d)) := fun X hX => F13.later hX (by omega)
        clear g0 g1
        have g0 := F13.cell 0
        have g1 := F13.cell 1
        simp only [List.getElem?_toArray, List.getElem?_cons_zero, List.getElem?_cons_succ] at g0 g1
        have HA13 : Hid (Below V3.heap.size V3 w13) := A13
        clear hss b13 CM N13 F13 HH HLT HF12 A13
        go_wp2_with fail
        refine (CH.out _ HH13.out).mono ?_
        rintro e w14 ⟨rfl, b14⟩
        have hA13 := HA13.out.size
        have A14 : Below V3.heap.size V3 w14 := HA13.out.trans (b14.mono hA13)
        have HB14 : Hid (Below w13.heap.size w13 w14) := b14
        have T14 := HT3.out _ A14
        have HKB : Hid (∀ X, Below w14.heap.size w14 X → _) := fun X (hX : Below w14.heap.size w14 X) => HK.out X (T14.trans (hX.mono T14.size))
        have HBB : Hid (∀ X, Below w14.heap.size w14 X → Below w.heap.size w X) := fun X hX => HWB.out X (T14.trans (hX.mono T14.size))
        have HA14 : Hid (Below V3.heap.size V3 w14) := A14
        obtain ⟨gW, hgW⟩ : ∃ gW, g = gW := ⟨_, rfl⟩
        rw [hgW] at HX6
        rw [hgW]
        clear g0 g1 b14 A14 T14 hgW
        go_wp2
        refine wp_region_last 7 (by kernel_rfl) (by kernel_rfl) (RL w14.heap.size (.agg #[.slice a0 n0 k0, .slice a1 n1 k1, .slice a2 n2 k2, .slice a3 n3 k3]) (.agg #[.slice b0 m0 j0, .slice b1 m1 j1]) (.int .i64 z0) H T G) rl_mono ?_ ?_
        · intro i o hi ho a X hX hA hdep
          have hXs := hX.size
          obtain ⟨⟨q0, q1, q2, q3⟩, r0, r1⟩ := HKB.out X hX
          have hXw := HBB.out X hX
          match i, hi, ho with
          | 0, _, ho =>
            obtain rfl := Option.some.inj ho
            exact opLoadLH (alike_at hA (t := 3) (by kernel_rfl)) q0 q1 q2 q3 ⟨_, rfl, Below.refl _ _, rfl⟩
          | 1, _, ho =>
            obtain rfl := Option.some.inj ho
            have e1 : a.eval (.tmp 79) = .agg #[.slice a0 n0 k0, .slice a1 n1 k1, .slice a2 n2 k2, .slice a3 n3 k3] := hdep ⟨0, .data⟩ (by simp) rfl 79 rfl
            refine opToH e1 (CT.out X hXw) ?_
            rintro e w' ⟨x, rfl, hx, hb⟩
            exact ⟨x, rfl, _, rfl, hb, ownH_rd hx⟩
          | 2, _, ho =>
            obtain rfl := Option.some.inj ho
            exact opLoadLT (alike_at hA (t := 4) (by kernel_rfl)) r0 r1 ⟨_, rfl, Below.refl _ _, rfl⟩
          | 3, _, ho =>
            obtain rfl := Option.some.inj ho
            have e1 : a.eval (.tmp 81) = .agg #[.slice b0 m0 j0, .slice b1 m1 j1] := hdep ⟨2, .data⟩ (by simp) rfl 81 rfl
            refine opToT e1 (CU.out X hXw) ?_
            rintro e w' ⟨x, rfl, hx, hb⟩
            exact ⟨_, rfl, _, rfl, hb, x, rfl, hx.mono hXs⟩
          | 4, _, ho =>
            obtain rfl := Option.some.inj ho
            exact opMove (alike_at hA (t := 2) (by kernel_rfl)) ⟨_, rfl, Below.refl _ _, rfl⟩
          | 5, _, ho =>
            obtain rfl := Option.some.inj ho
            have e1 := hdep ⟨1, .data⟩ (by simp) rfl 80 rfl
            obtain ⟨sT, e2, hT⟩ := hdep ⟨3, .data⟩ (by simp) rfl 82 rfl
            have e3 : a.eval (.tmp 83) = .int .i64 z0 := hdep ⟨4, .data⟩ (by simp) rfl 83 rfl
            refine opImplScanFrom rfl e2 e3 (CI.out X _ _ e1 hT.rd) ?_
            rintro e w' ⟨x, rfl, hx, hb⟩
            exact ⟨_, rfl, _, rfl, hb, x, rfl, hx.mono hXs⟩
          | 6, _, ho =>
            obtain rfl := Option.some.inj ho
            exact opAllocT ⟨_, rfl, (Below.refl _ _).alloc (Nat.le_refl _) _, X.heap.size, rfl, hXs, Two.new X _ _⟩
        · intro o ho a X hX hA hdep
          obtain rfl := Option.some.inj ho
          obtain ⟨sH, e5, hT5⟩ := hdep ⟨5, .data⟩ (by simp) rfl 84 rfl
          obtain ⟨g, e8, hgB, hTw⟩ := hdep ⟨6, .data⟩ (by simp) rfl 15 rfl
          rw [tsh_v] at e5
          refine opStoreT e8 e5 hTw ?_
          have hne : ∀ (v : Value) (zs : List Int), ownI X w14.heap.size v zs → v.ownBlock ≠ some g := fun v zs hv => own_two_ne hv hTw
          have AT : TM (setTwo X g (.slice sH.a sH.n sH.c) (.slice sH.b sH.m sH.d)) w14.heap.size sH G := ⟨ownI_same hT5.x (fun i hi => setTwo_other _ _ _ _ i (fun e => hne _ _ hT5.x (e ▸ hi))), ownI_same hT5.y (fun i hi => setTwo_other _ _ _ _ i (fun e => hne _ _ hT5.y (e ▸ hi))), hT5.dif⟩
          have AW : Two (setTwo X g (.slice sH.a sH.n sH.c) (.slice sH.b sH.m sH.d)) g (.slice sH.a sH.n sH.c) (.slice sH.b sH.m sH.d) := two_set hTw _ _
          have sV := setTwo_size X g (.slice sH.a sH.n sH.c) (.slice sH.b sH.m sH.d)
          have hXs := hX.size
          have bV : Below w14.heap.size w14 (setTwo X g (.slice sH.a sH.n sH.c) (.slice sH.b sH.m sH.d)) := by
            unfold setTwo
            exact ((hX.setCell (p := ⟨g, 0, none⟩) hgB _).setCell (p := ⟨g, 1, none⟩) hgB _)
          obtain ⟨us, hus, rfl⟩ := alike_tmps hA [79, 80, 81, 82, 83, 84, 15] (by kernel_rfl)
          have u8 : us 15 = .pointer (some ⟨g, 0, none⟩) := (hus 15).symm.trans e8
          have hgl : g < (setTwo X g (.slice sH.a sH.n sH.c) (.slice sH.b sH.m sH.d)).heap.size := by rw [sV]; exact hTw.lt
          clear hdep hA hus e5 e8 hTw ho hne hT5 sV hXs hX
          generalize setTwo X g (.slice sH.a sH.n sH.c) (.slice sH.b sH.m sH.d) = V8 at *
          simp only [List.mapIdx_cons, List.mapIdx_nil, Nat.reduceAdd, List.contains_cons, List.contains_nil, Nat.reduceBEq, Bool.or_false, Bool.or_true, if_true, if_false, Bool.false_eq_true]
          rw [u8]
          clear u8
          have hvH := tsh_v sH
          have HRH2 : Hid (RdT V8 (.agg #[.slice sH.a sH.n sH.c, .slice sH.b sH.m sH.d]) G) := AT.rd
          have hs8 := bV.size
          have hA14 := HA14.out.size
          have A8 : Below V3.heap.size V3 V8 := HA14.out.trans (bV.mono hA14)
          have Z8 : Below w13.heap.size w13 V8 := HB14.out.trans (bV.mono HB14.out.size)
          have x6 := HX6.out _ A8
          have d0 := x6.cell 0
          have d1 := x6.cell 1
          have h0 := AW.cell 0
          have h1 := AW.cell 1
          simp only [List.getElem?_toArray, List.getElem?_cons_zero, List.getElem?_cons_succ] at d0 d1 h0 h1
          have HA8 : Hid (Below V3.heap.size V3 V8) := A8
          have HZ8 : Hid (Below w13.heap.size w13 V8) := Z8
          clear AT AW bV hgl x6 A8 Z8 HKB HBB
          go_wp2_with fail
          refine (CG.out _ _ _ HRH2.out (HRW.out _ HA8.out)).mono ?_
          rintro e w16 ⟨rfl, b16⟩
          have Z16 := HZ8.out.trans (b16.mono HZ8.out.size)
          have hA8 := HA8.out.size
          have A16 : Below V3.heap.size V3 w16 := HA8.out.trans (b16.mono hA8)
          have x8 := HF13.out _ Z16
          have g0 := x8.cell 0
          have g1 := x8.cell 1
          simp only [List.getElem?_toArray, List.getElem?_cons_zero, List.getElem?_cons_succ] at g0 g1
          have HZ16 : Hid (Below w13.heap.size w13 w16) := Z16
          have HA16 : Hid (Below V3.heap.size V3 w16) := A16
          clear b16 x8 Z16 A16 d0 d1 h0 h1
          go_wp2_with fail
          refine (CH.out _ (HH13.out.later HZ16.out)).mono ?_
          rintro e w17 ⟨rfl, b17⟩
          have hA16 := HA16.out.size
          have T17 := HWB.out _ (HT3.out _ (HA16.out.trans (b17.mono hA16)))
          go_wp2
          go_ret
          exact ⟨rfl, T17⟩

end Go.Proofs.Ytjhceoejblmihaa
