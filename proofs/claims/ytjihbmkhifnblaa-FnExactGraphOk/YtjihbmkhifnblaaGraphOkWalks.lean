/- What impl.GraphOk and spec.GraphOk answer. -/
import Derived.Test.YtjihbmkhifnblaaGraphBase
import Derived.Test.YtjihbmkhifnblaaISlicesWalks
import Derived.Test.YtjihbmkhifnblaaRfWalks
import Derived.Test.YtjihbmkhifnblaaHeapMath
namespace Go.Proofs.Ytjihbmkhifnblaa
open Go.RowKit
set_option linter.unusedVariables false
set_option maxRecDepth 100000

/-- A node as it is wanted. -/
def okNd (o : NodeD) : Prop := (0 ≤ o.gen ∧ o.gen ≤ 999) ∧ (0 ≤ o.holds ∧ o.holds ≤ 20) ∧ (0 ≤ o.roots ∧ o.roots ≤ 20) ∧ o.field.length = 3
/-- Every node is as wanted. -/
def AllNd (ds : List NodeD) : Prop := ∀ i (h : i < ds.length), okNd ds[i]
structure OkG (G : GrD) : Prop where
  n : G.nodes.length = 8
  w : G.weaks.length = 8
  s : G.sites.length ≤ 6
  ok : ∀ i (h : i < G.nodes.length), okNd G.nodes[i]

theorem nodeWrong_calls (o : NodeD) (f : Option Addr) (fc : Nat) (w : World) (hn : o.field.length ≤ 1048576) (b : Bool) (hb : b = true ↔ okNd o) :
    Calls Try.prog 40 #[.agg #[.bool o.live, .int .i64 o.gen, .int .i64 o.site, .int .i64 o.holds, .int .i64 o.roots, .slice f o.field.length fc]] w fun e w' => e = .returned (.bool (!b)) ∧ Below w.heap.size w w' := by
  have HNO : Hid (¬ okNd o → b = false) := bool_no hb
  have HY : Hid (okNd o → b = true) := hb.2
  have HU : Hid (okNd o ↔ ((0 ≤ o.gen ∧ o.gen ≤ 999) ∧ (0 ≤ o.holds ∧ o.holds ≤ 20) ∧ (0 ≤ o.roots ∧ o.roots ≤ 20) ∧ o.field.length = 3)) := Iff.rfl
  clear hb
  generalize o.live = ol at *
  generalize o.gen = og at *
  generalize o.site = os at *
  generalize o.holds = oh at *
  generalize o.roots = orr at *
  generalize o.field.length = n at *
  obtain ⟨W, hW⟩ : ∃ W, W = w.alloc (.cells #[.bool ol, .int .i64 og, .int .i64 os, .int .i64 oh, .int .i64 orr, .slice f n fc] 54) := ⟨_, rfl⟩
  have BW : Below w.heap.size w W := by rw [hW]; exact (Below.refl _ _).alloc (Nat.le_refl _) _
  have HC : Hid (∀ k, W.cell? ⟨w.heap.size, k, none⟩ = (#[Value.bool ol, .int .i64 og, .int .i64 os, .int .i64 oh, .int .i64 orr, .slice f n fc] : Array Value)[k]?) := fun k => by rw [hW, World.cell?_alloc_mark]
  have c3 := HC.out 3
  have c4 := HC.out 4
  have c5 := HC.out 5
  simp at c3 c4 c5
  by_cases h1 : 0 ≤ og ∧ og ≤ 999
  rotate_left
  · have hb0 := HNO.out (fun ok => h1 (HU.out.1 ok).1)
    subst hb0
    go_enter Try.func40, Try.ntmps40
    go_wp2_with fail
    rw [← hW]
    refine (within_no og 0 999 _ (by omega)).mono ?_
    rintro e V ⟨rfl, hV⟩
    subst hV
    clear hW
    go_wp2
    go_ret
    exact ⟨rfl, BW⟩
  by_cases h2 : 0 ≤ oh ∧ oh ≤ 20
  rotate_left
  · have hb0 := HNO.out (fun ok => h2 (HU.out.1 ok).2.1)
    subst hb0
    go_enter Try.func40, Try.ntmps40
    go_wp2_with fail
    rw [← hW]
    refine (within_yes og 0 999 _ h1.1 h1.2).mono ?_
    rintro e V ⟨rfl, hV⟩
    subst hV
    clear hW
    go_wp2_with fail
    refine (within_no oh 0 20 _ (by omega)).mono ?_
    rintro e V ⟨rfl, hV⟩
    subst hV
    go_wp2
    go_ret
    exact ⟨rfl, BW⟩
  by_cases h3 : 0 ≤ orr ∧ orr ≤ 20
  rotate_left
  · have hb0 := HNO.out (fun ok => h3 (HU.out.1 ok).2.2.1)
    subst hb0
    go_enter Try.func40, Try.ntmps40
    go_wp2_with fail
    rw [← hW]
    refine (within_yes og 0 999 _ h1.1 h1.2).mono ?_
    rintro e V ⟨rfl, hV⟩
    subst hV
    clear hW
    go_wp2_with fail
    refine (within_yes oh 0 20 _ h2.1 h2.2).mono ?_
    rintro e V ⟨rfl, hV⟩
    subst hV
    go_wp2_with fail
    refine (within_no orr 0 20 _ (by omega)).mono ?_
    rintro e V ⟨rfl, hV⟩
    subst hV
    go_wp2
    go_ret
    exact ⟨rfl, BW⟩
  have HFIN : Hid (((n : Int) != 3) = !b) := by
    show _ = _
    by_cases h4 : n = 3
    · rw [HY.out (HU.out.2 ⟨h1, h2, h3, h4⟩), h4]; rfl
    · rw [HNO.out (fun ok => h4 (HU.out.1 ok).2.2.2)]; simp; omega
  go_enter Try.func40, Try.ntmps40
  go_wp2_with fail
  rw [← hW]
  refine (within_yes og 0 999 _ h1.1 h1.2).mono ?_
  rintro e V ⟨rfl, hV⟩
  subst hV
  clear hW
  go_wp2_with fail
  refine (within_yes oh 0 20 _ h2.1 h2.2).mono ?_
  rintro e V ⟨rfl, hV⟩
  subst hV
  go_wp2_with fail
  refine (within_yes orr 0 20 _ h3.1 h3.2).mono ?_
  rintro e V ⟨rfl, hV⟩
  subst hV
  go_wp2
  go_ret
  exact ⟨ret_bb (by first | rfl | exact HFIN.out), BW⟩

theorem idxNode_calls (w : World) (a : Option Addr) (cap : Nat) (ds : List NodeD) (h : RdN w a ds) (hn : ds.length ≤ 1048576) (hf : ∀ z ∈ ds, z.field.length ≤ 1048576) :
    Calls Try.prog 60 #[.slice a ds.length cap, .func (.func 40) #[] #[]] w fun e w' => ∃ z : Int, e = .returned (.int .i64 z) ∧ (0 ≤ z ↔ ¬ AllNd ds) ∧ Below w.heap.size w w' := by
  have HA : Hid (∀ X, Below w.heap.size w X → RdN X a ds) := fun X hX => rdN_later h hX
  have HL : Hid (∀ z ∈ ds, z.field.length ≤ 1048576) := hf
  obtain ⟨n, hnn⟩ : ∃ n, ds.length = n := ⟨_, rfl⟩
  have Hn : Hid (ds.length = n) := hnn
  rw [hnn] at hn
  rw [hnn]
  clear h hnn hf
  go_enter Try.func60, Try.ntmps60
  go_wp2
  go_loopw [8] (fun i X => ∃ j : Nat, j ≤ n ∧ i = .int .i64 j ∧ Below w.heap.size w X ∧ Hid (∀ i (h : i < ds.length), i < j → okNd ds[i])) (fun i _ => n - (intOf i).toNat)
  case atStart => exact ⟨0, by omega, rfl, Below.refl _ _, fun i _ h => absurd h (by omega)⟩
  case round =>
    obtain ⟨j, hj, rfl, hb, HJ⟩ := hrel
    by_cases hlt : j < n
    · have hj2 : j < ds.length := by have := Hn.out; omega
      obtain ⟨g, off, f, fc, rfl, hg, hc, -⟩ := HA.out _ hb j hj2
      obtain ⟨c0, c1, c2, c3, c4, c5⟩ := hc
      obtain ⟨q, hq⟩ := bool_of (okNd ds[j])
      have CW : Hid (∀ X, _) := fun X => nodeWrong_calls ds[j] f fc X (HL.out _ (List.getElem_mem hj2)) q hq
      have HW : Hid (q = true → ∀ i (h : i < ds.length), i < j + 1 → okNd ds[i]) := fun ho i hi hl => by
        rcases Nat.lt_or_ge i j with h3 | h3
        · exact HJ.out i hi h3
        · obtain rfl : i = j := by omega
          exact hq.1 ho
      have HWN : Hid (q = false → ¬ AllNd ds) := fun ho hall => by rw [hq.2 (hall j hj2)] at ho; cases ho
      clear hq
      generalize ds[j].live = d0 at *
      generalize ds[j].gen = d1 at *
      generalize ds[j].site = d2 at *
      generalize ds[j].holds = d3 at *
      generalize ds[j].roots = d4 at *
      generalize ds[j].field.length = d5 at *
      cases q with
      | true =>
        have HFIN : Hid _ := HW.out rfl
        go_wp2_with fail
        refine (CW.out _).mono ?_
        rintro e w1 ⟨rfl, b1⟩
        have B1 := hb.trans (b1.mono hb.size)
        go_wp2
        go_roundw
        case rel => exact ⟨j + 1, by omega, by go_num, B1, HFIN⟩
        case measure => simp [intOf]; omega
      | false =>
        have HFIN : Hid _ := HWN.out rfl
        go_wp2_with fail
        refine (CW.out _).mono ?_
        rintro e w1 ⟨rfl, b1⟩
        have B1 := hb.trans (b1.mono hb.size)
        go_wp2
        go_ret
        exact ⟨(j : Int), rfl, ⟨fun _ => HFIN.out, fun _ => by omega⟩, B1⟩
    · have ej : n ≤ j := by omega
      go_wp2
      go_ret
      exact ⟨-1, rfl, ⟨fun h => by omega, fun h => absurd (fun i hi => HJ.out i hi (by have := Hn.out; omega)) h⟩, hb⟩

theorem hasNode_calls (w : World) (a : Option Addr) (cap : Nat) (ds : List NodeD) (h : RdN w a ds) (hn : ds.length ≤ 1048576) (hf : ∀ z ∈ ds, z.field.length ≤ 1048576) (b : Bool) (hb : b = true ↔ AllNd ds) :
    Calls Try.prog 39 #[.slice a ds.length cap, .func (.func 40) #[] #[]] w fun e w' => e = .returned (.bool (!b)) ∧ Below w.heap.size w w' := by
  have C : Hid (∀ u : Unit, _) := fun (_ : Unit) => idxNode_calls w a cap ds h hn hf
  rw [← hb] at C
  clear h hb hf
  go_enter Try.func39, Try.ntmps39
  go_wp2_with fail
  refine (C.out ()).mono ?_
  rintro e w1 ⟨z, rfl, hz, b1⟩
  have HZ : Hid (decide (0 ≤ z) = !b) := by show _ = _; cases b <;> simp_all
  clear hz
  go_wp2
  go_ret
  exact ⟨ret_bb HZ.out, b1⟩

set_option maxHeartbeats 1000000 in
theorem iGraphOk_calls (v : Value) (G : GrD) (w : World) (h : RdG w v G) (hs : SmallG G) (b : Bool) (hbb : b = true ↔ OkG G) :
    Calls Try.prog 14 #[v] w fun e w' => e = .returned (.bool b) ∧ Below w.heap.size w w' := by
  obtain ⟨ao, co, aw, cw, sa, sc, rfl, ro, rwk, rs⟩ := h
  have HNO : Hid (¬ OkG G → b = false) := bool_no hbb
  have HYES : Hid (OkG G → b = true) := hbb.2
  clear hbb
  obtain ⟨W, hW⟩ : ∃ W, W = w.alloc (.cells #[.slice ao G.nodes.length co, .slice aw G.weaks.length cw, .slice sa G.sites.length sc] 26) := ⟨_, rfl⟩
  have BW : Below w.heap.size w W := by rw [hW]; exact (Below.refl _ _).alloc (Nat.le_refl _) _
  obtain ⟨q, hq⟩ := bool_of (AllNd G.nodes)
  have CN : Hid (∀ u : Unit, _) := fun (_ : Unit) => hasNode_calls W ao co G.nodes (rdN_later ro BW) hs.nodes hs.fields q hq
  have HQ : Hid (G.nodes.length = 8 → G.weaks.length = 8 → G.sites.length ≤ 6 → q = b) := fun e1 e2 e3 => by
    cases q with
    | true => exact (HYES.out ⟨e1, e2, e3, hq.1 rfl⟩).symm
    | false => exact (HNO.out (fun ok => by have := hq.2 ok.ok; cases this)).symm
  have HN1 : Hid (G.nodes.length ≠ 8 → b = false) := fun e => HNO.out (fun ok => e ok.n)
  have HN2 : Hid (G.weaks.length ≠ 8 → b = false) := fun e => HNO.out (fun ok => e ok.w)
  have HN3 : Hid (¬ G.sites.length ≤ 6 → b = false) := fun e => HNO.out (fun ok => e ok.s)
  clear hq ro rwk rs hs HNO HYES
  generalize G.nodes.length = n0 at *
  generalize G.weaks.length = n1 at *
  generalize G.sites.length = n2 at *
  by_cases h0 : n0 = 8
  rotate_left
  · have hb := HN1.out h0
    subst hb
    have q0 : ¬ ((n0 : Int) = 8) := by omega
    go_enter Try.func14, Try.ntmps14
    go_wp2
    go_ret
    exact ⟨rfl, (Below.refl _ _).alloc (Nat.le_refl _) _⟩
  by_cases h1 : n1 = 8
  rotate_left
  · have hb := HN2.out h1
    subst hb h0
    have q0 : ¬ ((n1 : Int) = 8) := by omega
    go_enter Try.func14, Try.ntmps14
    go_wp2
    go_ret
    exact ⟨rfl, (Below.refl _ _).alloc (Nat.le_refl _) _⟩
  by_cases h2 : n2 ≤ 6
  rotate_left
  · have hb := HN3.out h2
    subst hb h0 h1
    have q0 : ¬ ((n2 : Int) ≤ 6) := by omega
    go_enter Try.func14, Try.ntmps14
    go_wp2
    go_ret
    exact ⟨rfl, (Below.refl _ _).alloc (Nat.le_refl _) _⟩
  have hqb := HQ.out h0 h1 h2
  subst hqb h0 h1
  have q2 : (n2 : Int) ≤ 6 := by omega
  clear HN1 HN2 HN3 HQ
  go_enter Try.func14, Try.ntmps14
  go_wp2_with fail
  rw [← hW]
  clear hW
  refine (CN.out ()).mono ?_
  rintro e w1 ⟨rfl, b1⟩
  have B1 := BW.trans (b1.mono BW.size)
  cases q
  all_goals
    go_wp2
    go_ret
    exact ⟨rfl, B1⟩

set_option maxHeartbeats 2000000 in
theorem sGraphOk_calls (v : Value) (G : GrD) (w : World) (h : RdG w v G) (hs : SmallG G) (b : Bool) (hbb : b = true ↔ OkG G) :
    Calls Try.prog 12 #[v] w fun e w' => e = .returned (.bool b) ∧ Below w.heap.size w w' := by
  obtain ⟨ao, co, aw, cw, sa, sc, rfl, ro, rwk, rs⟩ := h
  have HNO : Hid (¬ OkG G → b = false) := bool_no hbb
  have HYES : Hid (OkG G → b = true) := hbb.2
  clear hbb
  by_cases h0 : G.nodes.length = 8
  rotate_left
  · have hb := HNO.out (fun ok => h0 ok.n)
    subst hb
    have q0 : ¬ ((G.nodes.length : Int) = 8) := by omega
    clear ro rwk rs hs HNO HYES h0
    go_enter Try.func12, Try.ntmps12
    go_wp2
    go_ret
    exact ⟨rfl, (Below.refl _ _).alloc (Nat.le_refl _) _⟩
  by_cases h1 : G.weaks.length = 8
  rotate_left
  · have hb := HNO.out (fun ok => h1 ok.w)
    subst hb
    have q0 : ¬ ((G.weaks.length : Int) = 8) := by omega
    rw [h0]
    clear ro rwk rs hs HNO HYES h0 h1
    go_enter Try.func12, Try.ntmps12
    go_wp2
    go_ret
    exact ⟨rfl, (Below.refl _ _).alloc (Nat.le_refl _) _⟩
  by_cases h2 : 6 < G.sites.length
  · have hb := HNO.out (fun ok => by have := ok.s; omega)
    subst hb
    have q0 : (6 : Int) < (G.sites.length : Int) := by omega
    rw [h0, h1]
    clear ro rwk rs hs HNO HYES h0 h1
    go_enter Try.func12, Try.ntmps12
    go_wp2
    go_ret
    exact ⟨rfl, (Below.refl _ _).alloc (Nat.le_refl _) _⟩
  have h3 : G.sites.length ≤ 6 := by omega
  obtain ⟨W, hW⟩ : ∃ W, W = w.alloc (.cells #[.slice ao G.nodes.length co, .slice aw G.weaks.length cw, .slice sa G.sites.length sc] 26) := ⟨_, rfl⟩
  have BW : Below w.heap.size w W := by rw [hW]; exact (Below.refl _ _).alloc (Nat.le_refl _) _
  have hWs : W.heap.size = w.heap.size + 1 := by rw [hW]; simp
  have HK : Hid (∀ X, Below W.heap.size W X → X.cell? ⟨w.heap.size, 0, none⟩ = some (.slice ao 8 co)) := fun X hX => by
    have h := (three_kept w 26 (.slice ao G.nodes.length co) (.slice aw G.weaks.length cw) (.slice sa G.sites.length sc) X (by rw [hWs, hW] at hX; exact hX)).1
    rw [h0] at h
    exact h
  have HRN : Hid (∀ X, Below W.heap.size W X → RdN X ao G.nodes) := fun X hX => rdN_later (rdN_later ro BW) hX
  have HNX : Hid (∀ i (h : i < G.nodes.length), ¬ okNd G.nodes[i] → b = false) := fun i hi hn => HNO.out (fun ok => hn (ok.ok i hi))
  have HY2 : Hid ((∀ i (h : i < G.nodes.length), okNd G.nodes[i]) → b = true) := fun hh => HYES.out ⟨h0, h1, h3, hh⟩
  have HFL : Hid (∀ z ∈ G.nodes, z.field.length ≤ 1048576) := hs.fields
  have H0 : Hid (G.nodes.length = 8) := h0
  have HBW : Hid (Below w.heap.size w W) := BW
  have hlw : w.heap.size < W.heap.size := by omega
  rw [h0, h1] at hW
  rw [h0, h1]
  clear ro rwk rs hs HNO HYES h0 h1 hWs BW
  go_enter Try.func12, Try.ntmps12
  go_wp2
  rw [← hW]
  clear hW
  go_loopw [3] (fun i wr => ∃ j : Nat, j ≤ 8 ∧ i = .int .i64 (j : Int) ∧ Below W.heap.size W wr ∧ Hid (∀ i (h : i < G.nodes.length), i < j → okNd G.nodes[i])) (fun i _ => 8 - (intOf i).toNat)
  case atStart => exact ⟨0, by omega, rfl, Below.refl _ _, fun i _ h => absurd h (by omega)⟩
  case round =>
    obtain ⟨j, hj, rfl, hb, HO⟩ := hrel
    have p0 := HK.out _ hb
    by_cases hlt : j < 8
    rotate_left
    · have ej : 8 ≤ j := by omega
      have hb1 := HY2.out (fun i hi => HO.out i hi (by have := H0.out; omega))
      subst hb1
      go_wp2
      go_ret
      exact ⟨rfl, HBW.out.trans (hb.mono HBW.out.size)⟩
    have hj2 : j < G.nodes.length := by have := H0.out; omega
    obtain ⟨g, off, f, fc, rfl, hg, hc, -⟩ := HRN.out _ hb j hj2
    have HX : Hid (¬ okNd G.nodes[j] → b = false) := HNX.out j hj2
    have HZ : Hid (okNd G.nodes[j] → ∀ i (h : i < G.nodes.length), i < j + 1 → okNd G.nodes[i]) := fun ho i hi hl => by
      rcases Nat.lt_or_ge i j with h3 | h3
      · exact HO.out i hi h3
      · obtain rfl : i = j := by omega
        exact ho
    have HU : Hid (okNd G.nodes[j] ↔ ((0 ≤ G.nodes[j].gen ∧ G.nodes[j].gen ≤ 999) ∧ (0 ≤ G.nodes[j].holds ∧ G.nodes[j].holds ≤ 20) ∧ (0 ≤ G.nodes[j].roots ∧ G.nodes[j].roots ≤ 20) ∧ G.nodes[j].field.length = 3)) := Iff.rfl
    have hfl := HFL.out _ (List.getElem_mem hj2)
    obtain ⟨c0, c1, c2, c3, c4, c5⟩ := hc
    generalize G.nodes[j].live = ol at *
    generalize G.nodes[j].gen = og at *
    generalize G.nodes[j].site = os at *
    generalize G.nodes[j].holds = oh at *
    generalize G.nodes[j].roots = orr at *
    generalize G.nodes[j].field.length = n at *
    obtain ⟨V, hV⟩ : ∃ V, V = wr.alloc (.cells #[.bool ol, .int .i64 og, .int .i64 os, .int .i64 oh, .int .i64 orr, .slice f n fc] 54) := ⟨_, rfl⟩
    have BV : Below wr.heap.size wr V := by rw [hV]; exact (Below.refl _ _).alloc (Nat.le_refl _) _
    have HEND : Hid (Below W.heap.size W V) := hb.trans (BV.mono hb.size)
    have HC : Hid (∀ k, V.cell? ⟨wr.heap.size, k, none⟩ = (#[Value.bool ol, .int .i64 og, .int .i64 os, .int .i64 oh, .int .i64 orr, .slice f n fc] : Array Value)[k]?) := fun k => by rw [hV, World.cell?_alloc_mark]
    have x3 := HC.out 3
    have x4 := HC.out 4
    have x5 := HC.out 5
    simp at x3 x4 x5
    clear BV
    by_cases h1 : 0 ≤ og ∧ og ≤ 999
    rotate_left
    · have hb0 := HX.out (fun ok => h1 (HU.out.1 ok).1)
      subst hb0
      go_wp2_with fail
      rw [← hV]
      refine (l1In_no og 0 999 _ (by omega)).mono ?_
      rintro e V2 ⟨rfl, hV2⟩
      subst hV2
      clear hV
      go_wp2
      go_ret
      exact ⟨rfl, HBW.out.trans (HEND.out.mono HBW.out.size)⟩
    by_cases h2 : 0 ≤ oh ∧ oh ≤ 20
    rotate_left
    · have hb0 := HX.out (fun ok => h2 (HU.out.1 ok).2.1)
      subst hb0
      go_wp2_with fail
      rw [← hV]
      refine (l1In_yes og 0 999 _ h1.1 h1.2).mono ?_
      rintro e V2 ⟨rfl, hV2⟩
      subst hV2
      clear hV
      go_wp2_with fail
      refine (l1In_no oh 0 20 _ (by omega)).mono ?_
      rintro e V2 ⟨rfl, hV2⟩
      subst hV2
      go_wp2
      go_ret
      exact ⟨rfl, HBW.out.trans (HEND.out.mono HBW.out.size)⟩
    by_cases h3 : 0 ≤ orr ∧ orr ≤ 20
    rotate_left
    · have hb0 := HX.out (fun ok => h3 (HU.out.1 ok).2.2.1)
      subst hb0
      go_wp2_with fail
      rw [← hV]
      refine (l1In_yes og 0 999 _ h1.1 h1.2).mono ?_
      rintro e V2 ⟨rfl, hV2⟩
      subst hV2
      clear hV
      go_wp2_with fail
      refine (l1In_yes oh 0 20 _ h2.1 h2.2).mono ?_
      rintro e V2 ⟨rfl, hV2⟩
      subst hV2
      go_wp2_with fail
      refine (l1In_no orr 0 20 _ (by omega)).mono ?_
      rintro e V2 ⟨rfl, hV2⟩
      subst hV2
      go_wp2
      go_ret
      exact ⟨rfl, HBW.out.trans (HEND.out.mono HBW.out.size)⟩
    by_cases h4 : n = 3
    · have HFIN : Hid _ := HZ.out (HU.out.2 ⟨h1, h2, h3, h4⟩)
      clear HU
      subst h4
      go_wp2_with fail
      rw [← hV]
      refine (l1In_yes og 0 999 _ h1.1 h1.2).mono ?_
      rintro e V2 ⟨rfl, hV2⟩
      subst hV2
      clear hV
      go_wp2_with fail
      refine (l1In_yes oh 0 20 _ h2.1 h2.2).mono ?_
      rintro e V2 ⟨rfl, hV2⟩
      subst hV2
      go_wp2_with fail
      refine (l1In_yes orr 0 20 _ h3.1 h3.2).mono ?_
      rintro e V2 ⟨rfl, hV2⟩
      subst hV2
      go_wp2
      go_roundw
      case rel => exact ⟨j + 1, by omega, by go_num, HEND.out, HFIN⟩
      case measure => simp [intOf]; omega
    · have hb0 := HX.out (fun ok => h4 (HU.out.1 ok).2.2.2)
      subst hb0
      have q3 : ((n : Int) != 3) = true := by simp; omega
      have q4 : ¬ ((n : Int) = 3) := by omega
      go_wp2_with fail
      rw [← hV]
      refine (l1In_yes og 0 999 _ h1.1 h1.2).mono ?_
      rintro e V2 ⟨rfl, hV2⟩
      subst hV2
      clear hV
      go_wp2_with fail
      refine (l1In_yes oh 0 20 _ h2.1 h2.2).mono ?_
      rintro e V2 ⟨rfl, hV2⟩
      subst hV2
      go_wp2_with fail
      refine (l1In_yes orr 0 20 _ h3.1 h3.2).mono ?_
      rintro e V2 ⟨rfl, hV2⟩
      subst hV2
      go_wp2
      go_ret
      exact ⟨rfl, HBW.out.trans (HEND.out.mono HBW.out.size)⟩

end Go.Proofs.Ytjihbmkhifnblaa
