/- What the specification's ReadEvent answers. -/
import Derived.Test.YtcjpepdagnifiaaDoorJReadEventF
namespace Go.Proofs.YtcjpepdagnifiaaDoor
open Go.RowKit
set_option linter.unusedVariables false
set_option maxRecDepth 100000

set_option maxHeartbeats 2000000 in
theorem sReadEvent_calls (v : Value) (P : PenD) (l : List UInt8) (w : World) (hP : RdP w v P) (hs : SmallP P) (hsa : SaneP P) (hl : l.length ≤ 1048576) (r : Option (OpD × AnsD)) (hr1 : PenR P → r = rEv P l) (hr2 : ¬ PenR P → r = none) :
    Calls Tryd.prog 6 #[v, .string (txt l)] w fun e w' => EvPost w (ansO r) (ansA r) (ansP P r) r.isSome e w' := by
  obtain ⟨sa, sc, rfl, rs⟩ := hP
  have HRW : Hid (r = none ∨ ∃ o A, r = some (o, A) ∧ RawE P l o A ∧ EvR P o A ∧ l = evT P o A) := r_cases hr1 hr2
  have HQ1 : Hid (PenR P → r = rEv P l) := hr1
  have HSM : Hid (SmallP P) := hs
  have hn0 : P.sites.length ≤ 1048576 := hs.sites
  obtain ⟨W, hW⟩ : ∃ W, W = (((w.alloc (.cells #[.int .i64 P.last, .slice sa P.sites.length sc] 31)).alloc (.cells #[.int .i64 0, .int .i64 0, .int .i64 0, .int .i64 0, .string ⟨#[]⟩] 27)).alloc (.cells #[.int .i64 0, .int .i64 0, .slice none 0 0] 30)).alloc (.cells #[.int .i64 0, .slice none 0 0] 31) := ⟨_, rfl⟩
  obtain ⟨sW, BW, wpen, wro, wra, wrp⟩ := rev_entry w P sa sc W hW
  have HSS : Hid (SrcC W sa P.sites.length 1 (P.sites.map strV)) := (srcS rs).later BW
  have HRS : Hid (∀ X, Below w.heap.size w X → RdS X sa P.sites) := fun X hX => rdS_later rs hX
  have HF0 : Hid (Two W w.heap.size (.int .i64 P.last) (.slice sa P.sites.length sc)) := wpen
  have HF1 : Hid (OB W (w.heap.size + 1) 0 0 0 0 ⟨#[]⟩ ∧ Three W (w.heap.size + 1 + 1) (.int .i64 0) (.int .i64 0) (.slice none 0 0) ∧ Two W (w.heap.size + 1 + 1 + 1) (.int .i64 0) (.slice none 0 0)) := ⟨wro, wra, wrp⟩
  have HBW : Hid (Below w.heap.size w W) := BW
  have HWs : Hid (W.heap.size = w.heap.size + 1 + 1 + 1 + 1) := sW
  clear rs hs hr1 hr2 wpen wro wra wrp BW sW
  go_enter Tryd.func6, Tryd.ntmps6
  go_wp2
  rw [← hW]
  clear hW
  refine wp_region_last 8 (by kernel_rfl) (by kernel_rfl) (RNew W.heap.size w.heap.size P.last sa P.sites.length sc (P.sites.map strV) (KTwo W.heap.size)) (rnew_mono (ktwo_mono _)) ?_ ?_
  · intro i o hi ho a X hX hA hdep
    have FX := (HF0.out.later hX).cells
    have hXs := hX.size
    match i, hi, ho with
    | 0, _, ho =>
      obtain rfl := Option.some.inj ho
      exact opFieldPen 0 (by omega) (alike_at hA (t := 2) (by kernel_rfl)) ⟨_, rfl, Below.refl _ _, rfl⟩
    | 1, _, ho =>
      obtain rfl := Option.some.inj ho
      have e1 : a.eval (.tmp 26) = .pointer (some ⟨w.heap.size, 0, none⟩) := hdep ⟨0, .data⟩ (by simp) rfl 26 rfl
      exact opLoadInt e1 FX.1 ⟨_, rfl, Below.refl _ _, rfl⟩
    | 2, _, ho =>
      obtain rfl := Option.some.inj ho
      exact opNewS ⟨_, rfl, (Below.refl _ _).alloc (Nat.le_refl _) _, X.heap.size, rfl, hXs, fresh_at X _⟩
    | 3, _, ho =>
      obtain rfl := Option.some.inj ho
      exact opFieldPen 1 (by omega) (alike_at hA (t := 2) (by kernel_rfl)) ⟨_, rfl, Below.refl _ _, rfl⟩
    | 4, _, ho =>
      obtain rfl := Option.some.inj ho
      have e1 : a.eval (.tmp 29) = .pointer (some ⟨w.heap.size, 1, none⟩) := hdep ⟨3, .data⟩ (by simp) rfl 29 rfl
      exact opLoadS e1 FX.2 ⟨_, rfl, Below.refl _ _, rfl⟩
    | 5, _, ho =>
      obtain rfl := Option.some.inj ho
      obtain ⟨g, e1, gB, hg⟩ := hdep ⟨2, .data⟩ (by simp) rfl 28 rfl
      have e2 : a.eval (.tmp 30) = .slice sa P.sites.length sc := hdep ⟨4, .data⟩ (by simp) rfl 30 rfl
      exact wp_append_fresh elS _ _ rfl g W.heap.size hg gB sa P.sites.length sc _ e1 e2 (HSS.out.later hX) (by omega) (by omega) (fun v' w' r b _ => ⟨_, rfl, b, r⟩)
    | 6, _, ho =>
      obtain rfl := Option.some.inj ho
      have e0 : a.eval (.tmp 27) = .int .i64 P.last := hdep ⟨1, .data⟩ (by simp) rfl 27 rfl
      have r3 : X.ownsRow W.heap.size 9 1 (a.eval (.tmp 31)) P.sites.length (P.sites.map strV) := hdep ⟨5, .data⟩ (by simp) rfl 31 rfl
      obtain ⟨x3, c3, e3, _⟩ := row_form r3
      rw [e3] at r3
      exact opBuildPen e0 e3 ⟨_, rfl, Below.refl _ _, x3, c3, rfl, r3⟩
    | 7, _, ho =>
      obtain rfl := Option.some.inj ho
      exact opAllocPen ⟨_, rfl, (Below.refl _ _).alloc (Nat.le_refl _) _, X.heap.size, rfl, hXs, Two.new X _ _⟩
  · intro o ho a X hX hA hdep
    obtain rfl := Option.some.inj ho
    obtain ⟨g, e1, gB, hf⟩ := hdep ⟨7, .data⟩ (by simp) rfl 8 rfl
    obtain ⟨x3, c3, e2, r3⟩ := hdep ⟨6, .data⟩ (by simp) rfl 32 rfl
    refine opStorePen e1 e2 hf ?_
    obtain ⟨us, hus, rfl⟩ := alike_tmps hA [26, 27, 28, 29, 30, 31, 32, 8] (by kernel_rfl)
    have e3 : us 8 = .pointer (some ⟨g, 0, none⟩) := (hus 8).symm.trans e1
    have hoth : ∀ i, i ≠ g → ((X.setCell ⟨g, 0, none⟩ (.int .i64 P.last)).setCell ⟨g, 1, none⟩ (.slice x3 P.sites.length c3)).heap[i]? = X.heap[i]? := fun i hi => by
      rw [Below.heap_setCell _ _ _ _ (by exact hi), Below.heap_setCell _ _ _ _ (by exact hi)]
    have HX : Hid (Two ((X.setCell ⟨g, 0, none⟩ (.int .i64 P.last)).setCell ⟨g, 1, none⟩ (.slice x3 P.sites.length c3)) g (.int .i64 P.last) (.slice x3 P.sites.length c3)) := hf.set _ _
    have HO : Hid (ownS ((X.setCell ⟨g, 0, none⟩ (.int .i64 P.last)).setCell ⟨g, 1, none⟩ (.slice x3 P.sites.length c3)) W.heap.size (.slice x3 P.sites.length c3) P.sites) := row_same r3 (fun i hi => by
      obtain ⟨cur, hc⟩ := row_kind r3 i hi
      exact hoth i (kind_ne hc hf (by decide)))
    have HB : Hid (Below W.heap.size W ((X.setCell ⟨g, 0, none⟩ (.int .i64 P.last)).setCell ⟨g, 1, none⟩ (.slice x3 P.sites.length c3))) := (hX.setCell gB _).setCell gB _
    have HGB : Hid (W.heap.size ≤ g) := gB
    clear hdep hA hus e1 e2 hf r3 ho HSS hoth
    generalize (X.setCell ⟨g, 0, none⟩ (.int .i64 P.last)).setCell ⟨g, 1, none⟩ (.slice x3 P.sites.length c3) = Y at *
    simp only [List.mapIdx_cons, List.mapIdx_nil, Nat.reduceAdd, List.contains_cons, List.contains_nil, Nat.reduceBEq, Bool.or_false, Bool.or_true, if_true, if_false, Bool.false_eq_true, e3]
    clear e3 hX gB
    have HS : Hid (SR w P sa sc g x3 c3 Y) := by
      have hw := HWs.out
      have hb := HB.out
      have bl : ∀ k, k < W.heap.size → Y.heap[k]? = W.heap[k]? := fun k hk => hb.block k hk
      obtain ⟨f1, f2, f3⟩ := HF1.out
      have hgb := HGB.out
      refine ⟨(bl _ (by omega)).trans HF0.out, (bl _ (by omega)).trans f1, (bl _ (by omega)).trans f2, (bl _ (by omega)).trans f3, HX.out, by omega, ?_, HBW.out.trans (hb.mono HBW.out.size)⟩
      have ho := HO.out
      rw [hw] at ho
      exact ho
    clear HX HO HB HGB HF0 HF1 HBW HWs
    have CI0 : Hid (∀ X : World, _) := fun X => sInts_calls l 0 4 X hl (Nat.zero_le _) (by omega)
    cases hI : intsS l 4 0 with
    | none =>
      have HR0 : Hid (r = none) := by
        rcases HRW.out with h | ⟨o, A, h, hraw, -, -⟩
        · exact h
        · obtain ⟨_, _, _, _, _, _, _, _, _, _, h2, _⟩ := hraw
          rw [hI] at h2
          cases h2
      rw [hI] at CI0
      simp only [Option.map_none, Option.getD_none, List.length_replicate] at CI0
      clear hI
      go_wp2_with fail
      refine (CI0.out _).mono ?_
      rintro e Y1 ⟨⟨y4, k4, rfl, -⟩, b1⟩
      have HS1 : Hid (SR w P sa sc g x3 c3 Y1) := HS.out.later b1
      clear HS b1 CI0 HRS HSM
      go_wp2
      obtain ⟨⟨f0, f5, f3, f2⟩, hEnd⟩ := HS1.out.bad
      have HE : Hid _ := hEnd
      clear hEnd
      obtain ⟨q0, q1, q2, q3, q4⟩ := HS1.out.ro.cells
      obtain ⟨t0, t1, t2⟩ : Y1.cell? ⟨w.heap.size + 1 + 1, 0, none⟩ = some (.int .i64 0) ∧ Y1.cell? ⟨w.heap.size + 1 + 1, 1, none⟩ = some (.int .i64 0) ∧ Y1.cell? ⟨w.heap.size + 1 + 1, 2, none⟩ = some (.slice none 0 0) := ⟨HS1.out.ra.cell 0, HS1.out.ra.cell 1, HS1.out.ra.cell 2⟩
      obtain ⟨s0, s1⟩ := HS1.out.rp.cells
      obtain ⟨z0, z1, z2, z3, z4⟩ : _ ∧ _ ∧ _ ∧ _ ∧ _ := ⟨HS1.out.ro.fr 0, HS1.out.ro.fr 1, HS1.out.ro.fr 2, HS1.out.ro.fr 3, HS1.out.ro.fr 4⟩
      obtain ⟨v0, v1, v2⟩ : _ ∧ _ ∧ _ := ⟨HS1.out.ra.frozen 0, HS1.out.ra.frozen 1, HS1.out.ra.frozen 2⟩
      have e0 : Y1.frozen? ⟨w.heap.size + 1 + 1 + 1, 0, none⟩ = false := Lib.frozen_of_heap HS1.out.rp 0
      have e1 : Y1.frozen? ⟨w.heap.size + 1 + 1 + 1, 1, none⟩ = false := Lib.frozen_of_heap HS1.out.rp 1
      have hg1 : ¬ g = w.heap.size + 1 := by have := HS1.out.gn; omega
      have hg2 : ¬ g = w.heap.size + 1 + 1 := by have := HS1.out.gn; omega
      have hg3 : ¬ g = w.heap.size + 1 + 1 + 1 := by have := HS1.out.gn; omega
      have F0 : Hid _ := f0
      have F5 : Hid _ := f5
      have F3 : Hid _ := f3
      have F2 : Hid _ := f2
      clear f0 f5 f3 f2
      unfold N2 at F0
      unfold N2 put5 at F5
      unfold N2 put3 put5 at F3
      unfold N2 put2 put3 put5 at F2
      unfold put2 put3 put5 at HE
      have hn0 := F0.out.1
      have hn1 := F0.out.2
      have FD : Hid (Y1.drew.cell? ⟨g, 0, none⟩ = some (.int .i64 P.last) ∧ Y1.drew.cell? ⟨g, 1, none⟩ = some (.slice x3 P.sites.length c3)) := F0.out
      have HPO : Hid (∀ e w', EvPost w (ansO r) (ansA r) (ansP P r) r.isSome e w' = EvPost w ⟨0, 0, 0, 0, []⟩ ⟨0, 0, []⟩ P false e w') := by rw [HR0.out]; exact fun _ _ => rfl
      clear HS1 HR0 HRW HQ1
      go_wp2_with fail
      go_region_held (fun Z => Z.cell? ⟨g, 0, none⟩ = some (.int .i64 P.last) ∧ Z.cell? ⟨g, 1, none⟩ = some (.slice x3 P.sites.length c3)) (first | with_reducible exact FD.out | with_reducible exact F0.out | with_reducible exact F5.out | with_reducible exact F3.out | with_reducible exact F2.out) (fail)
      all_goals
        clear F0 F5 F3 F2 FD
        go_wp2
        exact bodyPost_ret (v := .tuple #[.agg #[.int .i64 0, .int .i64 0, .int .i64 0, .int .i64 0, .string ⟨#[]⟩], .agg #[.int .i64 0, .int .i64 0, .slice none 0 0], .agg #[.int .i64 P.last, .slice x3 P.sites.length c3], .bool false]) (by simp [results, Tryd.results6, go_sem, *]) rfl (by rw [HPO.out]; exact ⟨none, 0, x3, c3, rfl, HE.out.1, HE.out.2.1, HE.out.2.2⟩)
    | some q =>
      obtain ⟨zs, p1⟩ := q
      obtain ⟨hz4, hp1, hzb⟩ := intsS_facts l 4 0 zs p1 (Nat.zero_le _) hI
      obtain ⟨v0, v1, v2, v3, rfl⟩ : ∃ a b c d, zs = [a, b, c, d] := by
        match zs, hz4 with
        | [a, b, c, d], _ => exact ⟨a, b, c, d, rfl⟩
      have HI : Hid (intsS l 4 0 = some ([v0, v1, v2, v3], p1)) := hI
      have HZB : Hid (in64 v0 ∧ in64 v2) := ⟨by have := hzb v0 (by simp); unfold in64; omega, by have := hzb v2 (by simp); unfold in64; omega⟩
      rw [hI] at CI0
      simp only [Option.map_some, Option.getD_some, List.length_cons, List.length_nil, Nat.reduceAdd] at CI0
      clear hI hz4 hzb
      obtain ⟨a0, ha0⟩ : ∃ a0, wrap64 (v1 + P.last) = a0 := ⟨_, rfl⟩
      have hwa : IntKind.i64.wrap (v1 + P.last) = a0 := by rw [← ha0, IntKind.wrap_i64]; simp only [wrap64]
      obtain ⟨c0, hc0⟩ : ∃ c0, wrap64 (v3 + a0) = c0 := ⟨_, rfl⟩
      have hwc : IntKind.i64.wrap (v3 + a0) = c0 := by rw [← hc0, IntKind.wrap_i64]; simp only [wrap64]
      have HA0 : Hid (wrap64 (v1 + P.last) = a0) := ha0
      have HC0 : Hid (wrap64 (v3 + a0) = c0) := hc0
      clear ha0 hc0
      go_wp2_with fail
      refine (CI0.out _).mono ?_
      rintro e Y1 ⟨⟨y4, k4, rfl, hO4⟩, b1⟩
      have HS1 : Hid (SR w P sa sc g x3 c3 Y1) := HS.out.later b1
      obtain ⟨gv, ov, rfl, hgv, -, hcell⟩ := rowCells hO4 rfl (by decide)
      have HV : Hid (∀ Z, Below Y1.heap.size Y1 Z → (Z.cell? ⟨gv, ov, none⟩ = some (.int .i64 v0) ∧ Z.cell? ⟨gv, ov + 1, none⟩ = some (.int .i64 v1) ∧ Z.cell? ⟨gv, ov + 2, none⟩ = some (.int .i64 v2) ∧ Z.cell? ⟨gv, ov + 3, none⟩ = some (.int .i64 v3)) ∧ Z.cell? ⟨w.heap.size, 0, none⟩ = some (.int .i64 P.last)) := fun Z hZ =>
        ⟨⟨hcell 0 (by simp) Z hZ, hcell 1 (by simp) Z hZ, hcell 2 (by simp) Z hZ, hcell 3 (by simp) Z hZ⟩, (HS1.out.pen.later hZ).cells.1⟩
      clear HS b1 CI0 hO4 hcell
      have hat0 : ¬ ((p1 : Int) < 0) := by omega
      have D1 : Below Y1.heap.size Y1 Y1.drew := (Below.refl _ _).drew
      obtain ⟨⟨w0, w1, w2, w3⟩, w4⟩ := HV.out _ (Below.refl _ _)
      go_wp2_with fail
      go_region_held (fun Z => (Z.cell? ⟨gv, ov, none⟩ = some (.int .i64 v0) ∧ Z.cell? ⟨gv, ov + 1, none⟩ = some (.int .i64 v1) ∧ Z.cell? ⟨gv, ov + 2, none⟩ = some (.int .i64 v2) ∧ Z.cell? ⟨gv, ov + 3, none⟩ = some (.int .i64 v3)) ∧ Z.cell? ⟨w.heap.size, 0, none⟩ = some (.int .i64 P.last)) (first | with_reducible exact HV.out _ D1 | with_reducible exact HV.out _ ((Below.refl _ _).alloc (Nat.le_refl _) _).drew | (trace_state; fail)) (fail)
      obtain ⟨V, hV⟩ : ∃ V, V = (Y1.alloc (.cells #[.int .i64 v0, .int .i64 a0, .int .i64 v2, .int .i64 0, .string ⟨#[]⟩] 27)).drew := ⟨_, rfl⟩
      have BV : Below Y1.heap.size Y1 V := by rw [hV]; exact ((Below.refl _ _).alloc (Nat.le_refl _) _).drew
      have HOV : Hid (OB V Y1.heap.size v0 a0 v2 0 ⟨#[]⟩) := by rw [hV]; exact heap_alloc_new Y1 _
      have HSV : Hid (SR w P sa sc g x3 c3 V) := HS1.out.later BV
      obtain ⟨go, hgo⟩ : ∃ go, Y1.heap.size = go := ⟨_, rfl⟩
      have hgvo : gv < go := by omega
      have hggo : g < go := by have := HS1.out.no.lt; omega
      have hrow : ∀ k, (Value.slice x3 P.sites.length c3).ownBlock = some k → k ≠ go := fun k hk => by have := (World.ownsRow.lt HS1.out.own k hk).2; omega
      have HROW : Hid (∀ k, (Value.slice x3 P.sites.length c3).ownBlock = some k → k ≠ go) := hrow
      have HV3 : Hid (∀ Z, Below V.heap.size V Z → Z.cell? ⟨gv, ov + 3, none⟩ = some (.int .i64 v3)) := fun Z hZ => (HV.out Z (BV.trans (hZ.mono BV.size))).1.2.2.2
      rw [hgo] at HOV
      rw [← hV, hgo]
      clear hV HS1 HV w0 w1 w2 w3 w4 BV hrow hgo hgv hwa D1 hat0
      have HMV : Hid (Mv go none V (V.setCell ⟨go, 3, none⟩ (.int .i64 c0)).drew) := (Mv.set (Mv.refl go V) 3 (.int .i64 c0)).trans (Mv.of (Below.refl _ _).drew)
      have HOV2 : Hid (OB (V.setCell ⟨go, 3, none⟩ (.int .i64 c0)).drew go v0 a0 v2 c0 ⟨#[]⟩) := OB.set3 HOV.out c0
      have HD0 : Hid (V.drew.cell? ⟨gv, ov + 3, none⟩ = some (.int .i64 v3) ∧ V.drew.cell? ⟨go, 1, none⟩ = some (.int .i64 a0)) := ⟨HV3.out _ (Below.refl _ _).drew, HOV.out.cells.2.1⟩
      have HD3 : Hid ((V.setCell ⟨go, 3, none⟩ (.int .i64 c0)).drew.cell? ⟨gv, ov + 3, none⟩ = some (.int .i64 v3) ∧ (V.setCell ⟨go, 3, none⟩ (.int .i64 c0)).drew.cell? ⟨go, 1, none⟩ = some (.int .i64 a0)) :=
        ⟨(World.cell?_setCell_other _ _ _ _ (by intro e; injection e; omega)).trans (HV3.out _ (Below.refl _ _)), HOV2.out.cells.2.1⟩
      have HS2 : Hid (SR w P sa sc g x3 c3 (V.setCell ⟨go, 3, none⟩ (.int .i64 c0)).drew) := HSV.out.move HMV.out hggo HROW.out
      obtain ⟨o0, o1, o2, o3, o4⟩ := HOV.out.cells
      have oz3 := HOV.out.fr 3
      have wv3 := HV3.out _ (Below.refl _ _)
      clear HSV HMV HOV
      go_wp2_with fail
      go_region_held (fun Z => Z.cell? ⟨gv, ov + 3, none⟩ = some (.int .i64 v3) ∧ Z.cell? ⟨go, 1, none⟩ = some (.int .i64 a0)) (first | with_reducible exact HD0.out | with_reducible exact HD3.out) (fail)
      clear HD0 HD3 HV3 o0 o1 o2 o3 o4 oz3 wv3 hwc hgvo
      generalize (V.setCell ⟨go, 3, none⟩ (.int .i64 c0)).drew = Y2 at *
      have CN : Hid (∀ X, Below Y2.heap.size Y2 X → _) := fun X hX => sName_calls (.agg #[.int .i64 P.last, .slice sa P.sites.length sc]) P l p1 X ⟨sa, sc, rfl, HRS.out X ((HS2.out.later hX).bel)⟩ HSM.out hl hp1
      obtain ⟨p0, p1'⟩ := HS2.out.pen.cells
      have hnf := nmS_facts P.sites l p1 hp1
      obtain ⟨x, at2, hnm⟩ : ∃ x at2, nmS P.sites l p1 = (x, at2) := ⟨_, _, rfl⟩
      rw [hnm] at CN hnf
      simp only at CN hnf
      have HNM : Hid (nmS P.sites l p1 = (x, at2)) := hnm
      clear hnm
      by_cases hneg : at2 < 0
      · have HR0 : Hid (r = none) := by
          rcases HRW.out with h | ⟨o, A, h, hraw, -, -⟩
          · exact h
          · obtain ⟨_, _, _, _, _, _, _, _, _, _, h1, _, _, h2, _⟩ := hraw
            rw [HI.out] at h1
            simp only [Option.some.injEq, Prod.mk.injEq] at h1
            rw [← h1.2, HNM.out] at h2
            simp only [Prod.mk.injEq] at h2
            omega
        have hd : decide (at2 < 0) = true := decide_eq_true hneg
        go_wp2_with fail
        refine (CN.out _ (Below.refl _ _)).mono ?_
        rintro e Y3 ⟨rfl, b3⟩
        have HS3 : Hid (SR w P sa sc g x3 c3 Y3) := HS2.out.later b3
        clear HS2 b3 CN HRS HSM HOV2 p0 p1' HROW HI HNM hnf HA0 HC0 HZB
        go_wp2
        obtain ⟨⟨f0, f5, f3, f2⟩, hEnd⟩ := HS3.out.bad
        have HE : Hid _ := hEnd
        clear hEnd
        obtain ⟨q0, q1, q2, q3, q4⟩ := HS3.out.ro.cells
        obtain ⟨t0, t1, t2⟩ : Y3.cell? ⟨w.heap.size + 1 + 1, 0, none⟩ = some (.int .i64 0) ∧ Y3.cell? ⟨w.heap.size + 1 + 1, 1, none⟩ = some (.int .i64 0) ∧ Y3.cell? ⟨w.heap.size + 1 + 1, 2, none⟩ = some (.slice none 0 0) := ⟨HS3.out.ra.cell 0, HS3.out.ra.cell 1, HS3.out.ra.cell 2⟩
        obtain ⟨s0, s1⟩ := HS3.out.rp.cells
        obtain ⟨z0, z1, z2, z3, z4⟩ : _ ∧ _ ∧ _ ∧ _ ∧ _ := ⟨HS3.out.ro.fr 0, HS3.out.ro.fr 1, HS3.out.ro.fr 2, HS3.out.ro.fr 3, HS3.out.ro.fr 4⟩
        obtain ⟨v0, v1, v2⟩ : _ ∧ _ ∧ _ := ⟨HS3.out.ra.frozen 0, HS3.out.ra.frozen 1, HS3.out.ra.frozen 2⟩
        have e0 : Y3.frozen? ⟨w.heap.size + 1 + 1 + 1, 0, none⟩ = false := Lib.frozen_of_heap HS3.out.rp 0
        have e1 : Y3.frozen? ⟨w.heap.size + 1 + 1 + 1, 1, none⟩ = false := Lib.frozen_of_heap HS3.out.rp 1
        have hg1 : ¬ g = w.heap.size + 1 := by have := HS3.out.gn; omega
        have hg2 : ¬ g = w.heap.size + 1 + 1 := by have := HS3.out.gn; omega
        have hg3 : ¬ g = w.heap.size + 1 + 1 + 1 := by have := HS3.out.gn; omega
        have F0 : Hid _ := f0
        have F5 : Hid _ := f5
        have F3 : Hid _ := f3
        have F2 : Hid _ := f2
        clear f0 f5 f3 f2
        unfold N2 at F0
        unfold N2 put5 at F5
        unfold N2 put3 put5 at F3
        unfold N2 put2 put3 put5 at F2
        unfold put2 put3 put5 at HE
        have hn0 := F0.out.1
        have hn1 := F0.out.2
        have FD : Hid (Y3.drew.cell? ⟨g, 0, none⟩ = some (.int .i64 P.last) ∧ Y3.drew.cell? ⟨g, 1, none⟩ = some (.slice x3 P.sites.length c3)) := F0.out
        have HPO : Hid (∀ e w', EvPost w (ansO r) (ansA r) (ansP P r) r.isSome e w' = EvPost w ⟨0, 0, 0, 0, []⟩ ⟨0, 0, []⟩ P false e w') := by rw [HR0.out]; exact fun _ _ => rfl
        clear HS3 HR0 HRW HQ1
        go_wp2_with fail
        go_region_held (fun Z => Z.cell? ⟨g, 0, none⟩ = some (.int .i64 P.last) ∧ Z.cell? ⟨g, 1, none⟩ = some (.slice x3 P.sites.length c3)) (first | with_reducible exact FD.out | with_reducible exact F0.out | with_reducible exact F5.out | with_reducible exact F3.out | with_reducible exact F2.out) (fail)
        all_goals
          clear F0 F5 F3 F2 FD
          go_wp2
          exact bodyPost_ret (v := .tuple #[.agg #[.int .i64 0, .int .i64 0, .int .i64 0, .int .i64 0, .string ⟨#[]⟩], .agg #[.int .i64 0, .int .i64 0, .slice none 0 0], .agg #[.int .i64 P.last, .slice x3 P.sites.length c3], .bool false]) (by simp [results, Tryd.results6, go_sem, *]) rfl (by rw [HPO.out]; exact ⟨none, 0, x3, c3, rfl, HE.out.1, HE.out.2.1, HE.out.2.2⟩)
      rcases hnf with hbad | ⟨p2, rfl, hp2, hxs⟩
      · exact absurd hbad hneg
      have hat2 : ¬ ((p2 : Int) < 0) := by omega
      have HX8 : Hid (x.length ≤ 1048576) := by
        rcases hxs with h | h
        · exact HSM.out.names x h
        · show _ ≤ _; omega
      clear hneg hxs
      obtain ⟨code, k1, hv1⟩ : ∃ n k, rdv (l.drop p2) = (n, k) := ⟨_, _, rfl⟩
      have hle1 := rdv_le (l.drop p2)
      rw [hv1, List.length_drop] at hle1
      obtain ⟨hc49, hk1l⟩ := hle1
      simp only at hc49 hk1l
      have hat3l : p2 + k1 ≤ l.length := by omega
      have hsr : (p2 : Int) + (k1 : Int) ≤ 1048576 := by omega
      have ha2 : (p2 : Int) ≤ (l.length : Int) := by omega
      have CV1 : Hid (∀ X : World, _) := fun X => sReadVar_txt (l.drop p2) code k1 X (by rw [List.length_drop]; omega) hv1
      have HV1 : Hid (rdv (l.drop p2) = (code, k1)) := hv1
      have hx1 : (txt l).extract p2 l.length = txt (l.drop p2) := txt_from l p2
      have hls : (txt l).size = l.length := rfl
      obtain ⟨at3, hat3⟩ : ∃ n, p2 + k1 = n := ⟨_, rfl⟩
      have HSUM : Hid ((p2 : Int) + (k1 : Int) = (at3 : Int)) := by show _ = _; omega
      rw [hat3] at hat3l
      have CI1 : Hid (∀ X : World, _) := fun X => sInts_calls l at3 1 X hl hat3l (by omega)
      have HAT3 : Hid (p2 + k1 = at3) := hat3
      clear hv1 hat3
      go_wp2_with fail
      refine (CN.out _ (Below.refl _ _)).mono ?_
      rintro e Y3 ⟨rfl, b3⟩
      have HS3 : Hid (SR w P sa sc g x3 c3 Y3) := HS2.out.later b3
      have HO3 : Hid (OB Y3 go v0 a0 v2 c0 ⟨#[]⟩) := (b3.block _ HOV2.out.lt).trans HOV2.out
      clear HS2 b3 CN HOV2 p0 p1'
      have HMV3 : Hid (Mv go none Y3 (Y3.setCell ⟨go, 4, none⟩ (.string (txt x)))) := Mv.set (Mv.refl go Y3) 4 (.string (txt x))
      have HO4 : Hid (OB (Y3.setCell ⟨go, 4, none⟩ (.string (txt x))) go v0 a0 v2 c0 (txt x)) := OB.set4 HO3.out (txt x)
      have HS4 : Hid (SR w P sa sc g x3 c3 (Y3.setCell ⟨go, 4, none⟩ (.string (txt x)))) := HS3.out.move HMV3.out hggo HROW.out
      obtain ⟨o0, o1, o2, o3, o4⟩ := HO3.out.cells
      have oz4 := HO3.out.fr 4
      clear HS3 HO3 HMV3
      go_wp2_with fail
      clear o0 o1 o2 o3 o4 oz4
      generalize Y3.setCell ⟨go, 4, none⟩ (.string (txt x)) = Y4 at *
      refine (CV1.out _).mono ?_
      rintro e Y5 ⟨rfl, b5⟩
      have HS5 : Hid (SR w P sa sc g x3 c3 Y5) := HS4.out.later b5
      have HO5 : Hid (OB Y5 go v0 a0 v2 c0 (txt x)) := (b5.block _ HO4.out.lt).trans HO4.out
      clear HS4 HO4 b5 CV1 hx1 ha2 hat2
      by_cases hk1 : k1 = 0
      · have HR0 : Hid (r = none) := by
          rcases HRW.out with h | ⟨o, A, h, hraw, -, -⟩
          · exact h
          · exfalso
            obtain ⟨n1, ws, q3, n2, n3, n4⟩ := rawE_next hraw HI.out HNM.out HV1.out
            rw [HAT3.out] at n2
            exact n1 hk1
        have CW : Hid (∀ X : World, Calls Tryd.prog 25 #[.string (txt l), .int .i64 (at3 : Int), .int .i64 ((1 : Nat) : Int)] X fun e w' => (∃ y m k z, e = .returned (.tuple #[.slice y m k, .int .i64 z])) ∧ Below X.heap.size X w') := fun X => (CI1.out X).mono fun e w' ⟨⟨y, k, h1, _⟩, h2⟩ => ⟨⟨y, _, k, _, h1⟩, h2⟩
        have hdk : ((k1 : Int) == 0) = true := by rw [hk1]; rfl
        clear CI1 hk1
        go_wp2_with fail
        rw [HSUM.out]
        refine (CW.out _).mono ?_
        rintro e Y6 ⟨⟨y6, m6, k6, z6, rfl⟩, b6⟩
        have HS6 : Hid (SR w P sa sc g x3 c3 Y6) := HS5.out.later b6
        clear HS5 HO5 b6 CW HRS HSM HROW HI HNM HA0 HC0 HZB HV1 HAT3 HX8
        go_wp2
        obtain ⟨⟨f0, f5, f3, f2⟩, hEnd⟩ := HS6.out.bad
        have HE : Hid _ := hEnd
        clear hEnd
        obtain ⟨q0, q1, q2, q3, q4⟩ := HS6.out.ro.cells
        obtain ⟨t0, t1, t2⟩ : Y6.cell? ⟨w.heap.size + 1 + 1, 0, none⟩ = some (.int .i64 0) ∧ Y6.cell? ⟨w.heap.size + 1 + 1, 1, none⟩ = some (.int .i64 0) ∧ Y6.cell? ⟨w.heap.size + 1 + 1, 2, none⟩ = some (.slice none 0 0) := ⟨HS6.out.ra.cell 0, HS6.out.ra.cell 1, HS6.out.ra.cell 2⟩
        obtain ⟨s0, s1⟩ := HS6.out.rp.cells
        obtain ⟨z0, z1, z2, z3, z4⟩ : _ ∧ _ ∧ _ ∧ _ ∧ _ := ⟨HS6.out.ro.fr 0, HS6.out.ro.fr 1, HS6.out.ro.fr 2, HS6.out.ro.fr 3, HS6.out.ro.fr 4⟩
        obtain ⟨v0, v1, v2⟩ : _ ∧ _ ∧ _ := ⟨HS6.out.ra.frozen 0, HS6.out.ra.frozen 1, HS6.out.ra.frozen 2⟩
        have e0 : Y6.frozen? ⟨w.heap.size + 1 + 1 + 1, 0, none⟩ = false := Lib.frozen_of_heap HS6.out.rp 0
        have e1 : Y6.frozen? ⟨w.heap.size + 1 + 1 + 1, 1, none⟩ = false := Lib.frozen_of_heap HS6.out.rp 1
        have hg1 : ¬ g = w.heap.size + 1 := by have := HS6.out.gn; omega
        have hg2 : ¬ g = w.heap.size + 1 + 1 := by have := HS6.out.gn; omega
        have hg3 : ¬ g = w.heap.size + 1 + 1 + 1 := by have := HS6.out.gn; omega
        have F0 : Hid _ := f0
        have F5 : Hid _ := f5
        have F3 : Hid _ := f3
        have F2 : Hid _ := f2
        clear f0 f5 f3 f2
        unfold N2 at F0
        unfold N2 put5 at F5
        unfold N2 put3 put5 at F3
        unfold N2 put2 put3 put5 at F2
        unfold put2 put3 put5 at HE
        have hn0 := F0.out.1
        have hn1 := F0.out.2
        have FD : Hid (Y6.drew.cell? ⟨g, 0, none⟩ = some (.int .i64 P.last) ∧ Y6.drew.cell? ⟨g, 1, none⟩ = some (.slice x3 P.sites.length c3)) := F0.out
        have HPO : Hid (∀ e w', EvPost w (ansO r) (ansA r) (ansP P r) r.isSome e w' = EvPost w ⟨0, 0, 0, 0, []⟩ ⟨0, 0, []⟩ P false e w') := by rw [HR0.out]; exact fun _ _ => rfl
        clear HS6 HR0 HRW HQ1
        go_wp2_with fail
        go_region_held (fun Z => Z.cell? ⟨g, 0, none⟩ = some (.int .i64 P.last) ∧ Z.cell? ⟨g, 1, none⟩ = some (.slice x3 P.sites.length c3)) (first | with_reducible exact FD.out | with_reducible exact F0.out | with_reducible exact F5.out | with_reducible exact F3.out | with_reducible exact F2.out) (fail)
        all_goals
          clear F0 F5 F3 F2 FD
          go_wp2
          exact bodyPost_ret (v := .tuple #[.agg #[.int .i64 0, .int .i64 0, .int .i64 0, .int .i64 0, .string ⟨#[]⟩], .agg #[.int .i64 0, .int .i64 0, .slice none 0 0], .agg #[.int .i64 P.last, .slice x3 P.sites.length c3], .bool false]) (by simp [results, Tryd.results6, go_sem, *]) rfl (by rw [HPO.out]; exact ⟨none, 0, x3, c3, rfl, HE.out.1, HE.out.2.1, HE.out.2.2⟩)
      have hdk : ((k1 : Int) == 0) = false := by rw [beq_eq_false_iff_ne]; omega
      cases hI2 : intsS l 1 at3 with
      | none =>
        have HR0 : Hid (r = none) := by
          rcases HRW.out with h | ⟨o, A, h, hraw, -, -⟩
          · exact h
          · exfalso
            obtain ⟨n1, ws, q3, n2, n3, n4⟩ := rawE_next hraw HI.out HNM.out HV1.out
            rw [HAT3.out] at n2
            rw [hI2] at n2
            cases n2
        rw [hI2] at CI1
        simp only [Option.map_none, Option.getD_none, List.length_replicate] at CI1
        clear hI2
        go_wp2_with fail
        rw [HSUM.out]
        refine (CI1.out _).mono ?_
        rintro e Y6 ⟨⟨y6, k6, rfl, -⟩, b6⟩
        have HS6 : Hid (SR w P sa sc g x3 c3 Y6) := HS5.out.later b6
        clear HS5 HO5 b6 CI1 HRS HSM HROW HI HNM HA0 HC0 HZB HV1 HAT3 HX8
        go_wp2
        obtain ⟨⟨f0, f5, f3, f2⟩, hEnd⟩ := HS6.out.bad
        have HE : Hid _ := hEnd
        clear hEnd
        obtain ⟨q0, q1, q2, q3, q4⟩ := HS6.out.ro.cells
        obtain ⟨t0, t1, t2⟩ : Y6.cell? ⟨w.heap.size + 1 + 1, 0, none⟩ = some (.int .i64 0) ∧ Y6.cell? ⟨w.heap.size + 1 + 1, 1, none⟩ = some (.int .i64 0) ∧ Y6.cell? ⟨w.heap.size + 1 + 1, 2, none⟩ = some (.slice none 0 0) := ⟨HS6.out.ra.cell 0, HS6.out.ra.cell 1, HS6.out.ra.cell 2⟩
        obtain ⟨s0, s1⟩ := HS6.out.rp.cells
        obtain ⟨z0, z1, z2, z3, z4⟩ : _ ∧ _ ∧ _ ∧ _ ∧ _ := ⟨HS6.out.ro.fr 0, HS6.out.ro.fr 1, HS6.out.ro.fr 2, HS6.out.ro.fr 3, HS6.out.ro.fr 4⟩
        obtain ⟨v0, v1, v2⟩ : _ ∧ _ ∧ _ := ⟨HS6.out.ra.frozen 0, HS6.out.ra.frozen 1, HS6.out.ra.frozen 2⟩
        have e0 : Y6.frozen? ⟨w.heap.size + 1 + 1 + 1, 0, none⟩ = false := Lib.frozen_of_heap HS6.out.rp 0
        have e1 : Y6.frozen? ⟨w.heap.size + 1 + 1 + 1, 1, none⟩ = false := Lib.frozen_of_heap HS6.out.rp 1
        have hg1 : ¬ g = w.heap.size + 1 := by have := HS6.out.gn; omega
        have hg2 : ¬ g = w.heap.size + 1 + 1 := by have := HS6.out.gn; omega
        have hg3 : ¬ g = w.heap.size + 1 + 1 + 1 := by have := HS6.out.gn; omega
        have F0 : Hid _ := f0
        have F5 : Hid _ := f5
        have F3 : Hid _ := f3
        have F2 : Hid _ := f2
        clear f0 f5 f3 f2
        unfold N2 at F0
        unfold N2 put5 at F5
        unfold N2 put3 put5 at F3
        unfold N2 put2 put3 put5 at F2
        unfold put2 put3 put5 at HE
        have hn0 := F0.out.1
        have hn1 := F0.out.2
        have FD : Hid (Y6.drew.cell? ⟨g, 0, none⟩ = some (.int .i64 P.last) ∧ Y6.drew.cell? ⟨g, 1, none⟩ = some (.slice x3 P.sites.length c3)) := F0.out
        have HPO : Hid (∀ e w', EvPost w (ansO r) (ansA r) (ansP P r) r.isSome e w' = EvPost w ⟨0, 0, 0, 0, []⟩ ⟨0, 0, []⟩ P false e w') := by rw [HR0.out]; exact fun _ _ => rfl
        clear HS6 HR0 HRW HQ1
        go_wp2_with fail
        go_region_held (fun Z => Z.cell? ⟨g, 0, none⟩ = some (.int .i64 P.last) ∧ Z.cell? ⟨g, 1, none⟩ = some (.slice x3 P.sites.length c3)) (first | with_reducible exact FD.out | with_reducible exact F0.out | with_reducible exact F5.out | with_reducible exact F3.out | with_reducible exact F2.out) (fail)
        all_goals
          clear F0 F5 F3 F2 FD
          go_wp2
          exact bodyPost_ret (v := .tuple #[.agg #[.int .i64 0, .int .i64 0, .int .i64 0, .int .i64 0, .string ⟨#[]⟩], .agg #[.int .i64 0, .int .i64 0, .slice none 0 0], .agg #[.int .i64 P.last, .slice x3 P.sites.length c3], .bool false]) (by simp [results, Tryd.results6, go_sem, *]) rfl (by rw [HPO.out]; exact ⟨none, 0, x3, c3, rfl, HE.out.1, HE.out.2.1, HE.out.2.2⟩)
      | some q2 =>
      obtain ⟨zs2, p3⟩ := q2
      obtain ⟨hz1, hp3, -⟩ := intsS_facts l 1 at3 zs2 p3 hat3l hI2
      obtain ⟨u0, rfl⟩ : ∃ a, zs2 = [a] := by
        match zs2, hz1 with
        | [a], _ => exact ⟨a, rfl⟩
      have HI2 : Hid (intsS l 1 at3 = some ([u0], p3)) := hI2
      rw [hI2] at CI1
      simp only [Option.map_some, Option.getD_some, List.length_cons, List.length_nil, Nat.reduceAdd] at CI1
      clear hI2 hz1
      have hp3n : ¬ ((p3 : Int) < 0) := by omega
      obtain ⟨n, e5, hv2⟩ : ∃ n k, rdv (l.drop p3) = (n, k) := ⟨_, _, rfl⟩
      have hle2 := rdv_le (l.drop p3)
      rw [hv2, List.length_drop] at hle2
      obtain ⟨hn49, he5l⟩ := hle2
      simp only at hn49 he5l
      have hat5l : p3 + e5 ≤ l.length := by omega
      have hsr5 : (p3 : Int) + (e5 : Int) ≤ 1048576 := by omega
      have ha3 : (p3 : Int) ≤ (l.length : Int) := by omega
      have CV2 : Hid (∀ X : World, _) := fun X => sReadVar_txt (l.drop p3) n e5 X (by rw [List.length_drop]; omega) hv2
      have HV2 : Hid (rdv (l.drop p3) = (n, e5)) := hv2
      have hx3 : (txt l).extract p3 l.length = txt (l.drop p3) := txt_from l p3
      clear hv2
      go_wp2_with fail
      rw [HSUM.out]
      refine (CI1.out _).mono ?_
      rintro e Y6 ⟨⟨y6, k6, rfl, hO6⟩, b6⟩
      have HS6 : Hid (SR w P sa sc g x3 c3 Y6) := HS5.out.later b6
      have HO6 : Hid (OB Y6 go v0 a0 v2 c0 (txt x)) := (b6.block _ HO5.out.lt).trans HO5.out
      obtain ⟨gw, ow, rfl, hgw, -, hcell6⟩ := rowCells hO6 rfl (by decide)
      have HW6 : Hid (∀ Z, Below Y6.heap.size Y6 Z → Z.cell? ⟨gw, ow, none⟩ = some (.int .i64 u0)) := fun Z hZ => hcell6 0 (by simp) Z hZ
      have hgw6 : Hid (gw < Y6.heap.size) := hgw
      clear HS5 HO5 b6 CI1 hO6 hcell6 hgw hk1
      go_wp2_with fail
      refine (CV2.out _).mono ?_
      rintro e Y7 ⟨rfl, b7⟩
      have HS7 : Hid (SR w P sa sc g x3 c3 Y7) := HS6.out.later b7
      have HO7 : Hid (OB Y7 go v0 a0 v2 c0 (txt x)) := (b7.block _ HO6.out.lt).trans HO6.out
      have HW7 : Hid (∀ Z, Below Y7.heap.size Y7 Z → Z.cell? ⟨gw, ow, none⟩ = some (.int .i64 u0)) := fun Z hZ => HW6.out Z (b7.trans (hZ.mono b7.size))
      have hgw7 : Hid (gw < Y7.heap.size) := Nat.lt_of_lt_of_le hgw6.out b7.size
      clear HS6 HO6 HW6 hgw6 b7 CV2 hx3 ha3 hp3n hdk
      by_cases he5 : e5 = 0
      · have HR0 : Hid (r = none) := by
          rcases HRW.out with h | ⟨o, A, h, hraw, -, -⟩
          · exact h
          · exfalso
            obtain ⟨n1, ws, q3, n2, n3, n4⟩ := rawE_next hraw HI.out HNM.out HV1.out
            rw [HAT3.out] at n2
            rw [HI2.out] at n2
            simp only [Option.some.injEq, Prod.mk.injEq] at n2
            rw [← n2.2, HV2.out] at n3
            exact n3 he5
        have hde : ((e5 : Int) == 0) = true := by rw [he5]; rfl
        clear HO7 HW7 hgw7 HI2 HV2 HRS HSM HROW HI HNM HA0 HC0 HZB HV1 HAT3 HX8
        go_wp2
        obtain ⟨⟨f0, f5, f3, f2⟩, hEnd⟩ := HS7.out.bad
        have HE : Hid _ := hEnd
        clear hEnd
        obtain ⟨q0, q1, q2, q3, q4⟩ := HS7.out.ro.cells
        obtain ⟨t0, t1, t2⟩ : Y7.cell? ⟨w.heap.size + 1 + 1, 0, none⟩ = some (.int .i64 0) ∧ Y7.cell? ⟨w.heap.size + 1 + 1, 1, none⟩ = some (.int .i64 0) ∧ Y7.cell? ⟨w.heap.size + 1 + 1, 2, none⟩ = some (.slice none 0 0) := ⟨HS7.out.ra.cell 0, HS7.out.ra.cell 1, HS7.out.ra.cell 2⟩
        obtain ⟨s0, s1⟩ := HS7.out.rp.cells
        obtain ⟨z0, z1, z2, z3, z4⟩ : _ ∧ _ ∧ _ ∧ _ ∧ _ := ⟨HS7.out.ro.fr 0, HS7.out.ro.fr 1, HS7.out.ro.fr 2, HS7.out.ro.fr 3, HS7.out.ro.fr 4⟩
        obtain ⟨v0, v1, v2⟩ : _ ∧ _ ∧ _ := ⟨HS7.out.ra.frozen 0, HS7.out.ra.frozen 1, HS7.out.ra.frozen 2⟩
        have e0 : Y7.frozen? ⟨w.heap.size + 1 + 1 + 1, 0, none⟩ = false := Lib.frozen_of_heap HS7.out.rp 0
        have e1 : Y7.frozen? ⟨w.heap.size + 1 + 1 + 1, 1, none⟩ = false := Lib.frozen_of_heap HS7.out.rp 1
        have hg1 : ¬ g = w.heap.size + 1 := by have := HS7.out.gn; omega
        have hg2 : ¬ g = w.heap.size + 1 + 1 := by have := HS7.out.gn; omega
        have hg3 : ¬ g = w.heap.size + 1 + 1 + 1 := by have := HS7.out.gn; omega
        have F0 : Hid _ := f0
        have F5 : Hid _ := f5
        have F3 : Hid _ := f3
        have F2 : Hid _ := f2
        clear f0 f5 f3 f2
        unfold N2 at F0
        unfold N2 put5 at F5
        unfold N2 put3 put5 at F3
        unfold N2 put2 put3 put5 at F2
        unfold put2 put3 put5 at HE
        have hn0 := F0.out.1
        have hn1 := F0.out.2
        have FD : Hid (Y7.drew.cell? ⟨g, 0, none⟩ = some (.int .i64 P.last) ∧ Y7.drew.cell? ⟨g, 1, none⟩ = some (.slice x3 P.sites.length c3)) := F0.out
        have HPO : Hid (∀ e w', EvPost w (ansO r) (ansA r) (ansP P r) r.isSome e w' = EvPost w ⟨0, 0, 0, 0, []⟩ ⟨0, 0, []⟩ P false e w') := by rw [HR0.out]; exact fun _ _ => rfl
        clear HS7 HR0 HRW HQ1
        go_wp2_with fail
        go_region_held (fun Z => Z.cell? ⟨g, 0, none⟩ = some (.int .i64 P.last) ∧ Z.cell? ⟨g, 1, none⟩ = some (.slice x3 P.sites.length c3)) (first | with_reducible exact FD.out | with_reducible exact F0.out | with_reducible exact F5.out | with_reducible exact F3.out | with_reducible exact F2.out) (fail)
        all_goals
          clear F0 F5 F3 F2 FD
          go_wp2
          exact bodyPost_ret (v := .tuple #[.agg #[.int .i64 0, .int .i64 0, .int .i64 0, .int .i64 0, .string ⟨#[]⟩], .agg #[.int .i64 0, .int .i64 0, .slice none 0 0], .agg #[.int .i64 P.last, .slice x3 P.sites.length c3], .bool false]) (by simp [results, Tryd.results6, go_sem, *]) rfl (by rw [HPO.out]; exact ⟨none, 0, x3, c3, rfl, HE.out.1, HE.out.2.1, HE.out.2.2⟩)
      have hde : ((e5 : Int) == 0) = false := by rw [beq_eq_false_iff_ne]; omega
      by_cases hn8 : 8 < n
      · have HR0 : Hid (r = none) := by
          rcases HRW.out with h | ⟨o, A, h, hraw, -, -⟩
          · exact h
          · exfalso
            obtain ⟨n1, ws, q3, n2, n3, n4⟩ := rawE_next hraw HI.out HNM.out HV1.out
            rw [HAT3.out] at n2
            rw [HI2.out] at n2
            simp only [Option.some.injEq, Prod.mk.injEq] at n2
            rw [← n2.2, HV2.out] at n4
            simp only at n4
            omega
        have hlt8 : (8 : Int) < (n : Int) := by omega
        have hd8 : decide (8 < n) = true := decide_eq_true hn8
        clear HO7 HW7 hgw7 HI2 HV2 hn8 HRS HSM HROW HI HNM HA0 HC0 HZB HV1 HAT3 HX8
        go_wp2
        obtain ⟨⟨f0, f5, f3, f2⟩, hEnd⟩ := HS7.out.bad
        have HE : Hid _ := hEnd
        clear hEnd
        obtain ⟨q0, q1, q2, q3, q4⟩ := HS7.out.ro.cells
        obtain ⟨t0, t1, t2⟩ : Y7.cell? ⟨w.heap.size + 1 + 1, 0, none⟩ = some (.int .i64 0) ∧ Y7.cell? ⟨w.heap.size + 1 + 1, 1, none⟩ = some (.int .i64 0) ∧ Y7.cell? ⟨w.heap.size + 1 + 1, 2, none⟩ = some (.slice none 0 0) := ⟨HS7.out.ra.cell 0, HS7.out.ra.cell 1, HS7.out.ra.cell 2⟩
        obtain ⟨s0, s1⟩ := HS7.out.rp.cells
        obtain ⟨z0, z1, z2, z3, z4⟩ : _ ∧ _ ∧ _ ∧ _ ∧ _ := ⟨HS7.out.ro.fr 0, HS7.out.ro.fr 1, HS7.out.ro.fr 2, HS7.out.ro.fr 3, HS7.out.ro.fr 4⟩
        obtain ⟨v0, v1, v2⟩ : _ ∧ _ ∧ _ := ⟨HS7.out.ra.frozen 0, HS7.out.ra.frozen 1, HS7.out.ra.frozen 2⟩
        have e0 : Y7.frozen? ⟨w.heap.size + 1 + 1 + 1, 0, none⟩ = false := Lib.frozen_of_heap HS7.out.rp 0
        have e1 : Y7.frozen? ⟨w.heap.size + 1 + 1 + 1, 1, none⟩ = false := Lib.frozen_of_heap HS7.out.rp 1
        have hg1 : ¬ g = w.heap.size + 1 := by have := HS7.out.gn; omega
        have hg2 : ¬ g = w.heap.size + 1 + 1 := by have := HS7.out.gn; omega
        have hg3 : ¬ g = w.heap.size + 1 + 1 + 1 := by have := HS7.out.gn; omega
        have F0 : Hid _ := f0
        have F5 : Hid _ := f5
        have F3 : Hid _ := f3
        have F2 : Hid _ := f2
        clear f0 f5 f3 f2
        unfold N2 at F0
        unfold N2 put5 at F5
        unfold N2 put3 put5 at F3
        unfold N2 put2 put3 put5 at F2
        unfold put2 put3 put5 at HE
        have hn0 := F0.out.1
        have hn1 := F0.out.2
        have FD : Hid (Y7.drew.cell? ⟨g, 0, none⟩ = some (.int .i64 P.last) ∧ Y7.drew.cell? ⟨g, 1, none⟩ = some (.slice x3 P.sites.length c3)) := F0.out
        have HPO : Hid (∀ e w', EvPost w (ansO r) (ansA r) (ansP P r) r.isSome e w' = EvPost w ⟨0, 0, 0, 0, []⟩ ⟨0, 0, []⟩ P false e w') := by rw [HR0.out]; exact fun _ _ => rfl
        clear HS7 HR0 HRW HQ1
        go_wp2_with fail
        go_region_held (fun Z => Z.cell? ⟨g, 0, none⟩ = some (.int .i64 P.last) ∧ Z.cell? ⟨g, 1, none⟩ = some (.slice x3 P.sites.length c3)) (first | with_reducible exact FD.out | with_reducible exact F0.out | with_reducible exact F5.out | with_reducible exact F3.out | with_reducible exact F2.out) (fail)
        all_goals
          clear F0 F5 F3 F2 FD
          go_wp2
          exact bodyPost_ret (v := .tuple #[.agg #[.int .i64 0, .int .i64 0, .int .i64 0, .int .i64 0, .string ⟨#[]⟩], .agg #[.int .i64 0, .int .i64 0, .slice none 0 0], .agg #[.int .i64 P.last, .slice x3 P.sites.length c3], .bool false]) (by simp [results, Tryd.results6, go_sem, *]) rfl (by rw [HPO.out]; exact ⟨none, 0, x3, c3, rfl, HE.out.1, HE.out.2.1, HE.out.2.2⟩)
      have hlt8 : ¬ ((8 : Int) < (n : Int)) := by omega
      have hd8 : decide (8 < n) = false := decide_eq_false hn8
      obtain ⟨va, hva⟩ : ∃ va, wrap64 (u0 + a0) = va := ⟨_, rfl⟩
      have hwv : IntKind.i64.wrap (u0 + a0) = va := by rw [← hva, IntKind.wrap_i64]; simp only [wrap64]
      have HVA : Hid (wrap64 (u0 + a0) = va) := hva
      clear hva
      have HC7 : Hid (∀ Z, Below Y7.heap.size Y7 Z → Z.cell? ⟨gw, ow, none⟩ = some (.int .i64 u0) ∧ Z.cell? ⟨go, 1, none⟩ = some (.int .i64 a0)) := fun Z hZ => ⟨HW7.out Z hZ, (show OB Z go _ _ _ _ _ from (hZ.block _ HO7.out.lt).trans HO7.out).cells.2.1⟩
      have D7 : Below Y7.heap.size Y7 Y7.drew := (Below.refl _ _).drew
      obtain ⟨wc0, wc1⟩ := HC7.out _ (Below.refl _ _)
      go_wp2_with fail
      go_region_held (fun Z => Z.cell? ⟨gw, ow, none⟩ = some (.int .i64 u0) ∧ Z.cell? ⟨go, 1, none⟩ = some (.int .i64 a0)) (first | with_reducible exact HC7.out _ D7 | with_reducible exact HC7.out _ ((Below.refl _ _).alloc (Nat.le_refl _) _).drew) (fail)
      obtain ⟨V7, hV7⟩ : ∃ V7, V7 = (Y7.alloc (.cells #[.int .i64 (code : Int), .int .i64 va, .slice none 0 0] 30)).drew := ⟨_, rfl⟩
      obtain ⟨ga, hga⟩ : ∃ ga, Y7.heap.size = ga := ⟨_, rfl⟩
      have BV7 : Below Y7.heap.size Y7 V7 := by rw [hV7]; exact ((Below.refl _ _).alloc (Nat.le_refl _) _).drew
      have HA7 : Hid (Three V7 ga (.int .i64 (code : Int)) (.int .i64 va) (.slice none 0 0)) := by rw [hV7, ← hga]; exact heap_alloc_new Y7 _
      have HSV7 : Hid (SR w P sa sc g x3 c3 V7) := HS7.out.later BV7
      have HOV7 : Hid (OB V7 go v0 a0 v2 c0 (txt x)) := (BV7.block _ HO7.out.lt).trans HO7.out
      have hgoga : go < ga := by have := HO7.out.lt; omega
      have hrow7 : ∀ k, (Value.slice x3 P.sites.length c3).ownBlock = some k → k ≠ ga := fun k hk => by have := (World.ownsRow.lt HS7.out.own k hk).2; omega
      have HROW7 : Hid (∀ k, (Value.slice x3 P.sites.length c3).ownBlock = some k → k ≠ ga) := hrow7
      have hgaV : ga < V7.heap.size := HA7.out.lt
      rw [← hV7, hga]
      clear hV7 BV7 HS7 HO7 HW7 hgw7 HC7 D7 wc0 wc1 hrow7 hga hwv hde hlt8 hd8
      obtain ⟨at5, hat5⟩ : ∃ n, p3 + e5 = n := ⟨_, rfl⟩
      have HAT5 : Hid (p3 + e5 = at5) := hat5
      have HSUM5 : Hid ((p3 : Int) + (e5 : Int) = (at5 : Int)) := by show _ = _; omega
      rw [hat5] at hat5l
      have hn8' : n ≤ 8 := by omega
      have CI2 : Hid (∀ X : World, _) := fun X => sInts_calls l at5 n X hl hat5l hn8'
      obtain ⟨fs, z5, hfs, hz5, hfl, hend⟩ : ∃ fs z5, ((intsS l n at5).map (·.1) |>.getD (List.replicate n 0)) = fs ∧ ((intsS l n at5).map (fun z => ((z.2 : Nat) : Int)) |>.getD (-1)) = z5 ∧ fs.length = n ∧ ((∃ p4, intsS l n at5 = some (fs, p4) ∧ 0 ≤ z5) ∨ (intsS l n at5 = none ∧ z5 < 0)) := by
        cases hR : intsS l n at5 with
        | none => exact ⟨List.replicate n 0, -1, rfl, rfl, List.length_replicate .., .inr ⟨rfl, by decide⟩⟩
        | some z =>
          obtain ⟨fs, p4⟩ := z
          exact ⟨fs, (p4 : Int), rfl, rfl, (intsS_facts l n at5 fs p4 hat5l hR).1, .inl ⟨p4, rfl, Int.natCast_nonneg p4⟩⟩
      have HEND : Hid ((∃ p4, intsS l n at5 = some (fs, p4) ∧ 0 ≤ z5) ∨ (intsS l n at5 = none ∧ z5 < 0)) := hend
      rw [hfs, hz5, hfl] at CI2
      have HFL : Hid (fs.length = n) := hfl
      clear hfs hz5 hfl hend hat5 hn8
      go_wp2_with fail
      rw [HSUM5.out]
      refine (CI2.out _).mono ?_
      rintro e Y8 ⟨⟨y8, k8, rfl, hO8⟩, b8⟩
      have HS8 : Hid (SR w P sa sc g x3 c3 Y8) := HSV7.out.later b8
      have HO8 : Hid (OB Y8 go v0 a0 v2 c0 (txt x)) := (b8.block _ HOV7.out.lt).trans HOV7.out
      have HA8 : Hid (Three Y8 ga (.int .i64 (code : Int)) (.int .i64 va) (.slice none 0 0)) := HA7.out.later b8
      have hga8 : ga < Y8.heap.size := HA8.out.lt
      have HF : Hid (∀ (j : Nat) (hj : j < fs.length) (Z : World), Mv ga none Y8 Z → ∃ gf of', y8 = some ⟨gf, of', none⟩ ∧ Z.cell? ⟨gf, of' + j, none⟩ = some (.int .i64 fs[j])) := fun j hj Z hZ => by
        obtain ⟨gf, of', e1, h1, h2, h3⟩ := rowCells hO8 HFL.out (by have := HFL.out; omega)
        exact ⟨gf, of', e1, (World.cell?_of_block (hZ.block gf h1 (by omega) (by simp))).trans (h3 j hj Y8 (Below.refl _ _))⟩
      obtain ⟨o0, o1, o2, o3, o4⟩ := HO8.out.cells
      clear HSV7 HOV7 HA7 CI2 hO8 b8 hgaV hsr5
      go_wp2
      clear o0 o1 o2 o3 o4
      go_loopw [22, 23] (fun lst i wr => ∃ (la : Int) (j : Nat) (y : Option Addr) (k : Nat), lst = .int .i64 la ∧ i = .int .i64 (j : Int) ∧ j ≤ n ∧ Hid (lastF a0 (fs.take j) = la) ∧ Hid (LF Y8 ga (code : Int) va (accF a0 (fs.take j)) y j k wr)) (fun _ i _ => n - (intOf i).toNat)
      case atStart => exact ⟨a0, 0, none, 0, rfl, rfl, Nat.zero_le _, rfl, ⟨Mv.refl ga Y8, HA8.out, ownI_nil _ _⟩⟩
      case round =>
        obtain ⟨la, j, y, k, rfl, rfl, hj, HLA, HL⟩ := hrel
        by_cases hlt : j < n
        · have hj2 : j < fs.length := by have := HFL.out; omega
          obtain ⟨gf, of', rfl, hcf⟩ := HF.out j hj2 wr HL.out.mv
          have ht : fs.take (j + 1) = fs.take j ++ [fs[j]] := by rw [List.take_add_one, List.getElem?_eq_getElem hj2]; rfl
          obtain ⟨la2, hla2⟩ : ∃ la2, wrap64 (la + fs[j]) = la2 := ⟨_, rfl⟩
          have hw2 : IntKind.i64.wrap (la + fs[j]) = la2 := by rw [← hla2, IntKind.wrap_i64]; simp only [wrap64]
          have HST : Hid (lastF a0 (fs.take (j + 1)) = la2) := by show _ = _; rw [ht, lastF_snoc, HLA.out, hla2]
          have HAC : Hid (accF a0 (fs.take (j + 1)) = accF a0 (fs.take j) ++ [la2]) := by show _ = _; rw [ht, accF_snoc, HLA.out, hla2]
          have HACL : Hid ((accF a0 (fs.take j)).length = j) := by show _ = _; rw [accF_length, List.length_take]; omega
          have hlen : (accF a0 (fs.take j)).length ≤ 16777215 := by have := HACL.out; omega
          obtain ⟨t0, t1, t2⟩ : wr.cell? ⟨ga, 0, none⟩ = some (.int .i64 (code : Int)) ∧ wr.cell? ⟨ga, 1, none⟩ = some (.int .i64 va) ∧ wr.cell? ⟨ga, 2, none⟩ = some (.slice y j k) := ⟨HL.out.an.cell 0, HL.out.an.cell 1, HL.out.an.cell 2⟩
          obtain ⟨U, hU⟩ : ∃ U, U = wr.alloc (.cells #[.int .i64 la2] 3) := ⟨_, rfl⟩
          have BU : Below wr.heap.size wr U := by rw [hU]; exact (Below.refl _ _).alloc (Nat.le_refl _) _
          have HUc : Hid (U.cell? ⟨wr.heap.size, 0, none⟩ = some (.int .i64 la2)) := by show _ = _; rw [hU, World.cell?_alloc_mark]; rfl
          have HUO : Hid (ownI U Y8.heap.size (.slice y j k) (accF a0 (fs.take j))) := ownI_later HL.out.own BU
          have HUB : Hid (Below wr.heap.size wr U) := BU
          have HUS : Hid (Y8.heap.size ≤ U.heap.size) := Nat.le_trans HL.out.mv.size BU.size
          have hi1 : (j : Int) < (n : Int) := by omega
          generalize fs[j] = z at *
          clear ht hla2 HLA HF BU
          go_wp2_with (at_builtin; rw [← hU]; clear hU; refine wpList_appendL rfl _ _ rfl Y8.heap.size (.slice y j k) (accF a0 (fs.take j)) rfl HUO.out ⟨wr.heap.size, 0, none⟩ la2 rfl HUc.out hlen HUS.out ?_)
          intro v9 w9 o9 s9 a9 l9 c9
          obtain ⟨y9, k9, hv9, -⟩ := rdI_own' o9
          rw [List.length_append, List.length_singleton, HACL.out] at hv9
          subst hv9
          have HLN : Hid (LF Y8 ga (code : Int) va (accF a0 (fs.take (j + 1))) y9 (j + 1) k9 (w9.setCell ⟨ga, 2, none⟩ (.slice y9 (j + 1) k9))) := by
            show LF _ _ _ _ _ _ _ _ _
            rw [HAC.out]
            exact lf_step HL.out hga8 HUB.out o9 s9 a9.out (c9.out Y8.heap.size U (Below.refl _ _) (Nat.le_refl _))
          have hT9 : Three w9 ga (.int .i64 (code : Int)) (.int .i64 va) (.slice y j k) := (a9.out ga (by have := HUS.out; omega) (fun e => by have := (World.ownsRow.lt HUO.out ga e).1; omega)).trans ((HUB.out.block ga HL.out.an.lt).trans HL.out.an)
          have x2 := hT9.cell 2
          have f2 := hT9.frozen 2
          simp only [List.getElem?_toArray, List.getElem?_cons_zero, List.getElem?_cons_succ] at x2
          clear hT9 o9 s9 a9 l9 c9 HUO HUc HUB HUS HL HAC HACL hlen t0 t1 t2 hcf hw2 hj2
          go_wp2
          go_roundw
          case rel => exact ⟨la2, j + 1, y9, k9, rfl, by go_num, by omega, HST, HLN⟩
          case measure => simp [intOf]; omega
        · obtain rfl : j = n := by omega
          have hft : fs.take j = fs := by rw [← HFL.out, List.take_length]
          have HL9 : Hid (LF Y8 ga (code : Int) va (accF a0 fs) y j k wr) := by
            have h := HL.out
            rw [hft] at h
            exact h
          have hgga : g < ga := by omega
          have HS9 : Hid (SR w P sa sc g x3 c3 wr) := HS8.out.move HL9.out.mv hgga HROW7.out
          have HO9 : Hid (OB wr go v0 a0 v2 c0 (txt x)) := (HL9.out.mv.block go HO8.out.lt (by omega) (by simp)).trans HO8.out
          have hdet : ∀ o' A', RawE P l o' A' → 0 ≤ z5 ∧ o' = ⟨v0, a0, v2, c0, x⟩ ∧ A' = ⟨(code : Int), va, accF a0 fs⟩ := fun o' A' h => by
            obtain ⟨h1, fs2, p4, h2, h3⟩ := rawE_det h HI.out HNM.out HV1.out (by rw [HAT3.out]; exact HI2.out) HV2.out
            rw [HAT5.out] at h2
            rcases HEND.out with ⟨p5, h4, h5⟩ | ⟨h4, -⟩
            · rw [h4] at h2
              simp only [Option.some.injEq, Prod.mk.injEq] at h2
              rw [HA0.out] at h1 h3
              rw [HC0.out] at h1
              rw [HVA.out, ← h2.1] at h3
              exact ⟨h5, h1, h3⟩
            · rw [h4] at h2; cases h2
          have HDET : Hid (∀ o' A', RawE P l o' A' → 0 ≤ z5 ∧ o' = ⟨v0, a0, v2, c0, x⟩ ∧ A' = ⟨(code : Int), va, accF a0 fs⟩) := hdet
          have HSO : Hid (SaneOp ⟨v0, a0, v2, c0, x⟩) := ⟨HZB.out.1, by have h := wrap64_range (v1 + P.last); rw [HA0.out] at h; exact h, HZB.out.2, by have h := wrap64_range (v3 + a0); rw [HC0.out] at h; exact h, by have := HX8.out; show x.length ≤ _; omega⟩
          clear hdet hft HL HLA HS8 HO8 HA8 HF HI HNM HV1 HAT3 HI2 HV2 HAT5 HEND HA0 HC0 HZB HVA HSUM HSUM5 HROW HROW7
          obtain ⟨o, e1, e2, e3, e4, e5'⟩ : ∃ o : OpD, o.kind = v0 ∧ o.a = a0 ∧ o.b = v2 ∧ o.c = c0 ∧ o.site = x := ⟨⟨v0, a0, v2, c0, x⟩, rfl, rfl, rfl, rfl, rfl⟩
          subst e1 e2 e3 e4 e5'
          obtain ⟨A, f1, f2, f3⟩ : ∃ A : AnsD, A.code = (code : Int) ∧ A.val = va ∧ A.freed = accF o.a fs := ⟨⟨(code : Int), va, accF o.a fs⟩, rfl, rfl, rfl⟩
          subst f2
          have hal : A.freed.length = j := by rw [f3, accF_length, HFL.out]
          rw [← f1, ← f3] at HL9
          subst hal
          have HDET2 : Hid (∀ o' A', RawE P l o' A' → 0 ≤ z5 ∧ o' = o ∧ A' = A) := fun o' A' h => by
            obtain ⟨h1, h2, h3⟩ := HDET.out o' A' h
            exact ⟨h1, h2, h3.trans (by rw [← f1, ← f3])⟩
          have HSO2 : Hid (SaneOp o) := HSO.out
          have HAN : Hid (Three wr ga (.int .i64 A.code) (.int .i64 A.val) (.slice y A.freed.length k)) := HL9.out.an
          have HOW : Hid (ownI wr Y8.heap.size (.slice y A.freed.length k) A.freed) := HL9.out.own
          have hfle : A.freed.length ≤ 1048576 := by omega
          clear HL9 HDET HSO f1 f3
          obtain ⟨q, hq⟩ := bool_of (EvR P o A)
          have HQ : Hid (q = true ↔ EvR P o A) := hq
          have CS : Hid (∀ _ : Unit, _) := fun (_ : Unit) => sShowEvent_calls (.agg #[.int .i64 P.last, .slice sa P.sites.length sc]) (.agg #[.int .i64 A.code, .int .i64 A.val, .slice y A.freed.length k]) P o A wr ⟨sa, sc, rfl, HRS.out wr HS9.out.bel⟩ (by
            obtain ⟨a', c', e', hr'⟩ := rdI_own' HOW.out
            simp only [Value.slice.injEq] at e'
            obtain ⟨rfl, -, rfl⟩ := e'
            exact ⟨y, k, rfl, hr'⟩) HSM.out HX8.out HSO2.out hfle q hq
          obtain ⟨T, hT⟩ : ∃ T, (if q then evT P o A else []) = T := ⟨_, rfl⟩
          obtain ⟨Q, hQ⟩ : ∃ Q, (if q then penB P o else P) = Q := ⟨_, rfl⟩
          rw [hT, hQ] at CS
          have HT : Hid ((if q then evT P o A else []) = T) := hT
          have HPQ : Hid ((if q then penB P o else P) = Q) := hQ
          unfold opV at CS
          clear hT hQ hq HRS HSM HX8 HSO2 HFL hfle
          obtain ⟨p0, p1'⟩ := HS9.out.pen.cells
          obtain ⟨o0, o1, o2, o3, o4⟩ := HO9.out.cells
          obtain ⟨t0, t1, t2⟩ : wr.cell? ⟨ga, 0, none⟩ = some (.int .i64 A.code) ∧ wr.cell? ⟨ga, 1, none⟩ = some (.int .i64 A.val) ∧ wr.cell? ⟨ga, 2, none⟩ = some (.slice y A.freed.length k) := ⟨HAN.out.cell 0, HAN.out.cell 1, HAN.out.cell 2⟩
          have hji : ¬ ((A.freed.length : Int) < (A.freed.length : Int)) := by omega
          go_wp2_with fail
          refine (CS.out ()).mono ?_
          rintro e Y9 ⟨u, rfl, hOP, b9⟩
          obtain ⟨vs, rfl, hvs⟩ := hOP
          obtain ⟨x9, c9, rfl, -⟩ := rdS_own hvs
          obtain ⟨gx, hgx⟩ : ∃ gx, Y9.heap.size = gx := ⟨_, rfl⟩
          obtain ⟨V9, hV9⟩ : ∃ V9, V9 = Y9.alloc (.cells #[.int .i64 Q.last, .slice x9 Q.sites.length c9] 31) := ⟨_, rfl⟩
          have BV9 : Below Y9.heap.size Y9 V9 := by rw [hV9]; exact (Below.refl _ _).alloc (Nat.le_refl _) _
          have BW9 : Below wr.heap.size wr V9 := b9.trans (BV9.mono b9.size)
          have HSF : Hid (SR w P sa sc g x3 c3 V9) := HS9.out.later BW9
          have HOF : Hid (OB V9 go o.kind o.a o.b o.c (txt o.site)) := (BW9.block _ HO9.out.lt).trans HO9.out
          have HAF : Hid (Three V9 ga (.int .i64 A.code) (.int .i64 A.val) (.slice y A.freed.length k)) := HAN.out.later BW9
          have HXF : Hid (Two V9 gx (.int .i64 Q.last) (.slice x9 Q.sites.length c9)) := by rw [hV9, ← hgx]; exact Two.new Y9 _ _
          have hgax : ga < gx := by have := HAN.out.lt; have := b9.size; omega
          have HEN : Hid (w.heap.size + 1 + 1 + 1 + 1 ≤ Y8.heap.size ∧ w.heap.size + 1 + 1 + 1 + 1 ≤ wr.heap.size) := by
            have h1 := HS9.out.gn
            have h2 := HS9.out.no.lt
            exact ⟨by omega, by omega⟩
          have HIF : Hid (ownI V9 Y8.heap.size (.slice y A.freed.length k) A.freed) := ownI_later HOW.out BW9
          have HQF : Hid (ownS V9 wr.heap.size (.slice x9 Q.sites.length c9) Q.sites) := ownS_later hvs BV9
          clear HS9 HO9 HAN HOW hvs BV9 BW9 b9 CS p0 p1' o0 o1 o2 o3 o4 t0 t1 t2
          by_cases hz : z5 < 0
          · have HR0 : Hid (r = none) := by
              rcases HRW.out with h | ⟨o', A', -, hraw, -, -⟩
              · exact h
              · have := (HDET2.out o' A' hraw).1; omega
            have hdz : decide (z5 < 0) = true := decide_eq_true hz
            go_wp2
            rw [← hV9]
            clear hV9 hgx HOF HAF HXF HEN HIF HQF HDET2 HQ HT HPQ
            obtain ⟨⟨f0, f5, f3, f2⟩, hEnd⟩ := HSF.out.bad
            have HE : Hid _ := hEnd
            clear hEnd
            obtain ⟨q0, q1, q2, q3, q4⟩ := HSF.out.ro.cells
            obtain ⟨t0, t1, t2⟩ : V9.cell? ⟨w.heap.size + 1 + 1, 0, none⟩ = some (.int .i64 0) ∧ V9.cell? ⟨w.heap.size + 1 + 1, 1, none⟩ = some (.int .i64 0) ∧ V9.cell? ⟨w.heap.size + 1 + 1, 2, none⟩ = some (.slice none 0 0) := ⟨HSF.out.ra.cell 0, HSF.out.ra.cell 1, HSF.out.ra.cell 2⟩
            obtain ⟨s0, s1⟩ := HSF.out.rp.cells
            obtain ⟨z0, z1, z2, z3, z4⟩ : _ ∧ _ ∧ _ ∧ _ ∧ _ := ⟨HSF.out.ro.fr 0, HSF.out.ro.fr 1, HSF.out.ro.fr 2, HSF.out.ro.fr 3, HSF.out.ro.fr 4⟩
            obtain ⟨v0, v1, v2⟩ : _ ∧ _ ∧ _ := ⟨HSF.out.ra.frozen 0, HSF.out.ra.frozen 1, HSF.out.ra.frozen 2⟩
            have e0 : V9.frozen? ⟨w.heap.size + 1 + 1 + 1, 0, none⟩ = false := Lib.frozen_of_heap HSF.out.rp 0
            have e1 : V9.frozen? ⟨w.heap.size + 1 + 1 + 1, 1, none⟩ = false := Lib.frozen_of_heap HSF.out.rp 1
            have hg1 : ¬ g = w.heap.size + 1 := by have := HSF.out.gn; omega
            have hg2 : ¬ g = w.heap.size + 1 + 1 := by have := HSF.out.gn; omega
            have hg3 : ¬ g = w.heap.size + 1 + 1 + 1 := by have := HSF.out.gn; omega
            have F0 : Hid _ := f0
            have F5 : Hid _ := f5
            have F3 : Hid _ := f3
            have F2 : Hid _ := f2
            clear f0 f5 f3 f2
            unfold N2 at F0
            unfold N2 put5 at F5
            unfold N2 put3 put5 at F3
            unfold N2 put2 put3 put5 at F2
            unfold put2 put3 put5 at HE
            have hn0 := F0.out.1
            have hn1 := F0.out.2
            have FD : Hid (V9.drew.cell? ⟨g, 0, none⟩ = some (.int .i64 P.last) ∧ V9.drew.cell? ⟨g, 1, none⟩ = some (.slice x3 P.sites.length c3)) := F0.out
            have HPO : Hid (∀ e w', EvPost w (ansO r) (ansA r) (ansP P r) r.isSome e w' = EvPost w ⟨0, 0, 0, 0, []⟩ ⟨0, 0, []⟩ P false e w') := by rw [HR0.out]; exact fun _ _ => rfl
            clear HSF HR0 HRW HQ1
            go_wp2_with fail
            go_region_held (fun Z => Z.cell? ⟨g, 0, none⟩ = some (.int .i64 P.last) ∧ Z.cell? ⟨g, 1, none⟩ = some (.slice x3 P.sites.length c3)) (first | with_reducible exact FD.out | with_reducible exact F0.out | with_reducible exact F5.out | with_reducible exact F3.out | with_reducible exact F2.out) (fail)
            all_goals
              clear F0 F5 F3 F2 FD
              go_wp2
              exact bodyPost_ret (v := .tuple #[.agg #[.int .i64 0, .int .i64 0, .int .i64 0, .int .i64 0, .string ⟨#[]⟩], .agg #[.int .i64 0, .int .i64 0, .slice none 0 0], .agg #[.int .i64 P.last, .slice x3 P.sites.length c3], .bool false]) (by simp [results, Tryd.results6, go_sem, *]) rfl (by rw [HPO.out]; exact ⟨none, 0, x3, c3, rfl, HE.out.1, HE.out.2.1, HE.out.2.2⟩)
          have hdz : decide (z5 < 0) = false := decide_eq_false hz
          by_cases hTl : T = l
          case neg =>
            have HR0 : Hid (r = none) := rev_no HRW.out (fun o' A' h => (HDET2.out o' A' h).2) HQ.out (by rw [HT.out]; exact hTl)
            have hqs : ((txt T).toList == (txt l).toList) = false := txt_beq_ne' hTl
            go_wp2
            rw [← hV9]
            clear hV9 hgx HOF HAF HXF HEN HIF HQF HDET2 HQ HT HPQ hTl
            obtain ⟨⟨f0, f5, f3, f2⟩, hEnd⟩ := HSF.out.bad
            have HE : Hid _ := hEnd
            clear hEnd
            obtain ⟨q0, q1, q2, q3, q4⟩ := HSF.out.ro.cells
            obtain ⟨t0, t1, t2⟩ : V9.cell? ⟨w.heap.size + 1 + 1, 0, none⟩ = some (.int .i64 0) ∧ V9.cell? ⟨w.heap.size + 1 + 1, 1, none⟩ = some (.int .i64 0) ∧ V9.cell? ⟨w.heap.size + 1 + 1, 2, none⟩ = some (.slice none 0 0) := ⟨HSF.out.ra.cell 0, HSF.out.ra.cell 1, HSF.out.ra.cell 2⟩
            obtain ⟨s0, s1⟩ := HSF.out.rp.cells
            obtain ⟨z0, z1, z2, z3, z4⟩ : _ ∧ _ ∧ _ ∧ _ ∧ _ := ⟨HSF.out.ro.fr 0, HSF.out.ro.fr 1, HSF.out.ro.fr 2, HSF.out.ro.fr 3, HSF.out.ro.fr 4⟩
            obtain ⟨v0, v1, v2⟩ : _ ∧ _ ∧ _ := ⟨HSF.out.ra.frozen 0, HSF.out.ra.frozen 1, HSF.out.ra.frozen 2⟩
            have e0 : V9.frozen? ⟨w.heap.size + 1 + 1 + 1, 0, none⟩ = false := Lib.frozen_of_heap HSF.out.rp 0
            have e1 : V9.frozen? ⟨w.heap.size + 1 + 1 + 1, 1, none⟩ = false := Lib.frozen_of_heap HSF.out.rp 1
            have hg1 : ¬ g = w.heap.size + 1 := by have := HSF.out.gn; omega
            have hg2 : ¬ g = w.heap.size + 1 + 1 := by have := HSF.out.gn; omega
            have hg3 : ¬ g = w.heap.size + 1 + 1 + 1 := by have := HSF.out.gn; omega
            have F0 : Hid _ := f0
            have F5 : Hid _ := f5
            have F3 : Hid _ := f3
            have F2 : Hid _ := f2
            clear f0 f5 f3 f2
            unfold N2 at F0
            unfold N2 put5 at F5
            unfold N2 put3 put5 at F3
            unfold N2 put2 put3 put5 at F2
            unfold put2 put3 put5 at HE
            have hn0 := F0.out.1
            have hn1 := F0.out.2
            have FD : Hid (V9.drew.cell? ⟨g, 0, none⟩ = some (.int .i64 P.last) ∧ V9.drew.cell? ⟨g, 1, none⟩ = some (.slice x3 P.sites.length c3)) := F0.out
            have HPO : Hid (∀ e w', EvPost w (ansO r) (ansA r) (ansP P r) r.isSome e w' = EvPost w ⟨0, 0, 0, 0, []⟩ ⟨0, 0, []⟩ P false e w') := by rw [HR0.out]; exact fun _ _ => rfl
            clear HSF HR0 HRW HQ1
            go_wp2_with fail
            go_region_held (fun Z => Z.cell? ⟨g, 0, none⟩ = some (.int .i64 P.last) ∧ Z.cell? ⟨g, 1, none⟩ = some (.slice x3 P.sites.length c3)) (first | with_reducible exact FD.out | with_reducible exact F0.out | with_reducible exact F5.out | with_reducible exact F3.out | with_reducible exact F2.out) (fail)
            all_goals
              clear F0 F5 F3 F2 FD
              go_wp2
              exact bodyPost_ret (v := .tuple #[.agg #[.int .i64 0, .int .i64 0, .int .i64 0, .int .i64 0, .string ⟨#[]⟩], .agg #[.int .i64 0, .int .i64 0, .slice none 0 0], .agg #[.int .i64 P.last, .slice x3 P.sites.length c3], .bool false]) (by simp [results, Tryd.results6, go_sem, *]) rfl (by rw [HPO.out]; exact ⟨none, 0, x3, c3, rfl, HE.out.1, HE.out.2.1, HE.out.2.2⟩)
          case pos =>
            subst hTl
            by_cases hle : T = []
            · subst hle
              have HR0 : Hid (r = none) := rev_empty HRW.out rfl
              have hqe : (txt []).toList.isEmpty = true := txt_empty
              go_wp2
              rw [← hV9]
              clear hV9 hgx HOF HAF HXF HEN HIF HQF HDET2 HQ HT HPQ
              obtain ⟨⟨f0, f5, f3, f2⟩, hEnd⟩ := HSF.out.bad
              have HE : Hid _ := hEnd
              clear hEnd
              obtain ⟨q0, q1, q2, q3, q4⟩ := HSF.out.ro.cells
              obtain ⟨t0, t1, t2⟩ : V9.cell? ⟨w.heap.size + 1 + 1, 0, none⟩ = some (.int .i64 0) ∧ V9.cell? ⟨w.heap.size + 1 + 1, 1, none⟩ = some (.int .i64 0) ∧ V9.cell? ⟨w.heap.size + 1 + 1, 2, none⟩ = some (.slice none 0 0) := ⟨HSF.out.ra.cell 0, HSF.out.ra.cell 1, HSF.out.ra.cell 2⟩
              obtain ⟨s0, s1⟩ := HSF.out.rp.cells
              obtain ⟨z0, z1, z2, z3, z4⟩ : _ ∧ _ ∧ _ ∧ _ ∧ _ := ⟨HSF.out.ro.fr 0, HSF.out.ro.fr 1, HSF.out.ro.fr 2, HSF.out.ro.fr 3, HSF.out.ro.fr 4⟩
              obtain ⟨v0, v1, v2⟩ : _ ∧ _ ∧ _ := ⟨HSF.out.ra.frozen 0, HSF.out.ra.frozen 1, HSF.out.ra.frozen 2⟩
              have e0 : V9.frozen? ⟨w.heap.size + 1 + 1 + 1, 0, none⟩ = false := Lib.frozen_of_heap HSF.out.rp 0
              have e1 : V9.frozen? ⟨w.heap.size + 1 + 1 + 1, 1, none⟩ = false := Lib.frozen_of_heap HSF.out.rp 1
              have hg1 : ¬ g = w.heap.size + 1 := by have := HSF.out.gn; omega
              have hg2 : ¬ g = w.heap.size + 1 + 1 := by have := HSF.out.gn; omega
              have hg3 : ¬ g = w.heap.size + 1 + 1 + 1 := by have := HSF.out.gn; omega
              have F0 : Hid _ := f0
              have F5 : Hid _ := f5
              have F3 : Hid _ := f3
              have F2 : Hid _ := f2
              clear f0 f5 f3 f2
              unfold N2 at F0
              unfold N2 put5 at F5
              unfold N2 put3 put5 at F3
              unfold N2 put2 put3 put5 at F2
              unfold put2 put3 put5 at HE
              have hn0 := F0.out.1
              have hn1 := F0.out.2
              have FD : Hid (V9.drew.cell? ⟨g, 0, none⟩ = some (.int .i64 P.last) ∧ V9.drew.cell? ⟨g, 1, none⟩ = some (.slice x3 P.sites.length c3)) := F0.out
              have HPO : Hid (∀ e w', EvPost w (ansO r) (ansA r) (ansP P r) r.isSome e w' = EvPost w ⟨0, 0, 0, 0, []⟩ ⟨0, 0, []⟩ P false e w') := by rw [HR0.out]; exact fun _ _ => rfl
              clear HSF HR0 HRW HQ1
              go_wp2_with fail
              go_region_held (fun Z => Z.cell? ⟨g, 0, none⟩ = some (.int .i64 P.last) ∧ Z.cell? ⟨g, 1, none⟩ = some (.slice x3 P.sites.length c3)) (first | with_reducible exact FD.out | with_reducible exact F0.out | with_reducible exact F5.out | with_reducible exact F3.out | with_reducible exact F2.out) (fail)
              all_goals
                clear F0 F5 F3 F2 FD
                go_wp2
                exact bodyPost_ret (v := .tuple #[.agg #[.int .i64 0, .int .i64 0, .int .i64 0, .int .i64 0, .string ⟨#[]⟩], .agg #[.int .i64 0, .int .i64 0, .slice none 0 0], .agg #[.int .i64 P.last, .slice x3 P.sites.length c3], .bool false]) (by simp [results, Tryd.results6, go_sem, *]) rfl (by rw [HPO.out]; exact ⟨none, 0, x3, c3, rfl, HE.out.1, HE.out.2.1, HE.out.2.2⟩)
            · obtain ⟨hr, hq1⟩ := rev_yes HQ1.out HQ.out HT.out hle
              have hqe : (txt T).toList.isEmpty = false := by
                cases T with
                | nil => exact absurd rfl hle
                | cons a b => exact txt_full a b
              have HPO : Hid (∀ e w', EvPost w (ansO r) (ansA r) (ansP P r) r.isSome e w' = EvPost w o A Q true e w') := by
                have h := HPQ.out
                rw [hq1, if_pos rfl] at h
                rw [hr, ← h]
                exact fun _ _ => rfl
              go_wp2
              rw [← hV9]
              clear hV9 hgx
              obtain ⟨f0, f5, f3, f2⟩ := c10_four (n := w.heap.size) HOF.out HAF.out HXF.out (by have := HSF.out.gn; omega) (by have := HSF.out.gn; omega) (by have := HSF.out.gn; omega)
              have HE : Hid _ := putA_end (o := o) HSF.out.bel (ownI_mono HIF.out HEN.out.1) (ownS_mono HQF.out HEN.out.2)
              have HCD : Hid _ := f0
              have HC5 : Hid _ := f5
              have HC3 : Hid _ := f3
              have HC2 : Hid _ := f2
              clear f0 f5 f3 f2
              obtain ⟨p0, p1, p2, p3, p4⟩ := HOF.out.cells
              obtain ⟨b0, b1, b2⟩ : V9.cell? ⟨ga, 0, none⟩ = some (.int .i64 A.code) ∧ V9.cell? ⟨ga, 1, none⟩ = some (.int .i64 A.val) ∧ V9.cell? ⟨ga, 2, none⟩ = some (.slice y A.freed.length k) := ⟨HAF.out.cell 0, HAF.out.cell 1, HAF.out.cell 2⟩
              obtain ⟨n0, n1⟩ := HXF.out.cells
              obtain ⟨q0, q1, q2, q3, q4⟩ := HSF.out.ro.cells
              obtain ⟨t0, t1, t2⟩ : V9.cell? ⟨w.heap.size + 1 + 1, 0, none⟩ = some (.int .i64 0) ∧ V9.cell? ⟨w.heap.size + 1 + 1, 1, none⟩ = some (.int .i64 0) ∧ V9.cell? ⟨w.heap.size + 1 + 1, 2, none⟩ = some (.slice none 0 0) := ⟨HSF.out.ra.cell 0, HSF.out.ra.cell 1, HSF.out.ra.cell 2⟩
              obtain ⟨s0, s1⟩ := HSF.out.rp.cells
              obtain ⟨z0, z1, z2, z3, z4⟩ : _ ∧ _ ∧ _ ∧ _ ∧ _ := ⟨HSF.out.ro.fr 0, HSF.out.ro.fr 1, HSF.out.ro.fr 2, HSF.out.ro.fr 3, HSF.out.ro.fr 4⟩
              obtain ⟨v0, v1, v2⟩ : _ ∧ _ ∧ _ := ⟨HSF.out.ra.frozen 0, HSF.out.ra.frozen 1, HSF.out.ra.frozen 2⟩
              have e0 : V9.frozen? ⟨w.heap.size + 1 + 1 + 1, 0, none⟩ = false := Lib.frozen_of_heap HSF.out.rp 0
              have e1 : V9.frozen? ⟨w.heap.size + 1 + 1 + 1, 1, none⟩ = false := Lib.frozen_of_heap HSF.out.rp 1
              unfold C10 at HCD
              unfold C10 put5 at HC5
              unfold C10 put3 put5 at HC3
              unfold C10 put2 put3 put5 at HC2
              unfold putA put2 put3 put5 at HE
              clear HOF HAF HXF HEN HIF HQF HDET2 HQ HT HPQ HSF HRW HQ1
              go_wp2_with fail
              go_region_held (fun Z => (Z.cell? ⟨go, 0, none⟩ = some (.int .i64 o.kind) ∧ Z.cell? ⟨go, 1, none⟩ = some (.int .i64 o.a) ∧ Z.cell? ⟨go, 2, none⟩ = some (.int .i64 o.b) ∧ Z.cell? ⟨go, 3, none⟩ = some (.int .i64 o.c) ∧ Z.cell? ⟨go, 4, none⟩ = some (.string (txt o.site))) ∧ (Z.cell? ⟨ga, 0, none⟩ = some (.int .i64 A.code) ∧ Z.cell? ⟨ga, 1, none⟩ = some (.int .i64 A.val) ∧ Z.cell? ⟨ga, 2, none⟩ = some (.slice y A.freed.length k)) ∧ Z.cell? ⟨gx, 0, none⟩ = some (.int .i64 Q.last) ∧ Z.cell? ⟨gx, 1, none⟩ = some (.slice x9 Q.sites.length c9)) (first | with_reducible exact HCD.out | with_reducible exact HC5.out | with_reducible exact HC3.out | with_reducible exact HC2.out) (fail)
              all_goals
                clear HCD HC5 HC3 HC2 p0 p1 p2 p3 p4 b0 b1 b2 n0 n1
                go_wp2
                exact bodyPost_ret (v := .tuple #[.agg #[.int .i64 o.kind, .int .i64 o.a, .int .i64 o.b, .int .i64 o.c, .string (txt o.site)], .agg #[.int .i64 A.code, .int .i64 A.val, .slice y A.freed.length k], .agg #[.int .i64 Q.last, .slice x9 Q.sites.length c9], .bool true]) (by simp [results, Tryd.results6, go_sem, *]) rfl (by rw [HPO.out]; exact ⟨y, k, x9, c9, rfl, HE.out.1, HE.out.2.1, HE.out.2.2⟩)

end Go.Proofs.YtcjpepdagnifiaaDoor

namespace Go.Proofs.YtcjpepdagnifiaaDoor
open Go.RowKit
set_option linter.unusedVariables false
set_option maxRecDepth 100000

theorem opLoadLPn {t i : Tmp} {ty : TypeId} {pos : String} {af : Array Edge} {a : Act} {X : World} {K : Act → World → Prop} {Q : Exit → Act → World → Prop} {g : Nat} {x0 x1 : Value} (h1 : a.eval (.tmp i) = .pointer (some ⟨g, 0, none⟩)) (hc : X.cell? ⟨g, 0, none⟩ = some x0 ∧ X.cell? ⟨g, 1, none⟩ = some x1) (hK : K (a.put (some t) (.agg #[x0, x1])) X) :
    Oper.wp Tryd.prog ⟨some t, .load 24 (.tmp i), ty, pos, af, none⟩ a X K Q := by
  have h := ev_tmp h1
  obtain ⟨c0, c1⟩ := hc
  go_simp; exact hK
theorem opLoadLAn {t i : Tmp} {ty : TypeId} {pos : String} {af : Array Edge} {a : Act} {X : World} {K : Act → World → Prop} {Q : Exit → Act → World → Prop} {g : Nat} {x0 x1 x2 : Value} (h1 : a.eval (.tmp i) = .pointer (some ⟨g, 0, none⟩)) (hc : X.cell? ⟨g, 0, none⟩ = some x0 ∧ X.cell? ⟨g, 1, none⟩ = some x1 ∧ X.cell? ⟨g, 2, none⟩ = some x2) (hK : K (a.put (some t) (.agg #[x0, x1, x2])) X) :
    Oper.wp Tryd.prog ⟨some t, .load 75 (.tmp i), ty, pos, af, none⟩ a X K Q := by
  have h := ev_tmp h1
  obtain ⟨c0, c1, c2⟩ := hc
  go_simp; exact hK
theorem opLoadPn {t i : Tmp} {ty : TypeId} {pos : String} {af : Array Edge} {a : Act} {X : World} {K : Act → World → Prop} {Q : Exit → Act → World → Prop} {g : Nat} {x0 x1 : Value} (h1 : a.eval (.tmp i) = .pointer (some ⟨g, 0, none⟩)) (hc : X.cell? ⟨g, 0, none⟩ = some x0 ∧ X.cell? ⟨g, 1, none⟩ = some x1) (hK : K (a.put (some t) (.agg #[x0, x1])) X) :
    Oper.wp Tryd.prog ⟨some t, .load 31 (.tmp i), ty, pos, af, none⟩ a X K Q := by
  have h := ev_tmp h1
  obtain ⟨c0, c1⟩ := hc
  go_simp; exact hK
theorem opLoadAns {t i : Tmp} {ty : TypeId} {pos : String} {af : Array Edge} {a : Act} {X : World} {K : Act → World → Prop} {Q : Exit → Act → World → Prop} {g : Nat} {x0 x1 x2 : Value} (h1 : a.eval (.tmp i) = .pointer (some ⟨g, 0, none⟩)) (hc : X.cell? ⟨g, 0, none⟩ = some x0 ∧ X.cell? ⟨g, 1, none⟩ = some x1 ∧ X.cell? ⟨g, 2, none⟩ = some x2) (hK : K (a.put (some t) (.agg #[x0, x1, x2])) X) :
    Oper.wp Tryd.prog ⟨some t, .load 30 (.tmp i), ty, pos, af, none⟩ a X K Q := by
  have h := ev_tmp h1
  obtain ⟨c0, c1, c2⟩ := hc
  go_simp; exact hK
theorem opLoadLOp {t i : Tmp} {ty : TypeId} {pos : String} {af : Array Edge} {a : Act} {X : World} {K : Act → World → Prop} {Q : Exit → Act → World → Prop} {g : Nat} {o : OpD} (h1 : a.eval (.tmp i) = .pointer (some ⟨g, 0, none⟩)) (hc : OpAt g o X) (hK : K (a.put (some t) (opV o)) X) :
    Oper.wp Tryd.prog ⟨some t, .load 73 (.tmp i), ty, pos, af, none⟩ a X K Q := by
  have h := ev_tmp h1
  obtain ⟨c0, c1, c2, c3, c4⟩ := hc.cells
  unfold opV at hK
  clear hc
  go_simp; exact hK
theorem opEx0 {t i : Tmp} {ty : TypeId} {pos : String} {af : Array Edge} {a : Act} {X : World} {K : Act → World → Prop} {Q : Exit → Act → World → Prop} {x y : Value} (h1 : a.eval (.tmp i) = .tuple #[x, y]) (hK : K (a.put (some t) x) X) :
    Oper.wp Tryd.prog ⟨some t, .extract (.tmp i) 0, ty, pos, af, none⟩ a X K Q := by
  have h := ev_tmp h1
  go_simp; exact hK
theorem opEx1 {t i : Tmp} {ty : TypeId} {pos : String} {af : Array Edge} {a : Act} {X : World} {K : Act → World → Prop} {Q : Exit → Act → World → Prop} {x y : Value} (h1 : a.eval (.tmp i) = .tuple #[x, y]) (hK : K (a.put (some t) y) X) :
    Oper.wp Tryd.prog ⟨some t, .extract (.tmp i) 1, ty, pos, af, none⟩ a X K Q := by
  have h := ev_tmp h1
  go_simp; exact hK
theorem opToPen {t i : Tmp} {ty : TypeId} {pos : String} {af : Array Edge} {ats : Array TypeId} {a : Act} {X : World} {K : Act → World → Prop} {Q : Exit → Act → World → Prop} {u : Value} {post : Ending → World → Prop} (h1 : a.eval (.tmp i) = u) (hC : Calls Tryd.prog 7 #[u] X post) (hK : ∀ e w', post e w' → ∃ x, e = .returned x ∧ K (a.put (some t) x) w') :
    Oper.wp Tryd.prog ⟨some t, .call { callee := .value (.func 7), args := #[.tmp i], argTypes := ats }, ty, pos, af, none⟩ a X K Q := by
  have e1 := ev_tmp h1
  go_simp
  refine hC.mono (fun e w' hp => ?_)
  obtain ⟨x, rfl, hx⟩ := hK e w' hp
  exact hx
theorem opToOpl {t i : Tmp} {ty : TypeId} {pos : String} {af : Array Edge} {ats : Array TypeId} {a : Act} {X : World} {K : Act → World → Prop} {Q : Exit → Act → World → Prop} {u : Value} {post : Ending → World → Prop} (h1 : a.eval (.tmp i) = u) (hC : Calls Tryd.prog 43 #[u] X post) (hK : ∀ e w', post e w' → ∃ x, e = .returned x ∧ K (a.put (some t) x) w') :
    Oper.wp Tryd.prog ⟨some t, .call { callee := .value (.func 43), args := #[.tmp i], argTypes := ats }, ty, pos, af, none⟩ a X K Q := by
  have e1 := ev_tmp h1
  go_simp
  refine hC.mono (fun e w' hp => ?_)
  obtain ⟨x, rfl, hx⟩ := hK e w' hp
  exact hx
theorem opToAns {t i : Tmp} {ty : TypeId} {pos : String} {af : Array Edge} {ats : Array TypeId} {a : Act} {X : World} {K : Act → World → Prop} {Q : Exit → Act → World → Prop} {u : Value} {post : Ending → World → Prop} (h1 : a.eval (.tmp i) = u) (hC : Calls Tryd.prog 44 #[u] X post) (hK : ∀ e w', post e w' → ∃ x, e = .returned x ∧ K (a.put (some t) x) w') :
    Oper.wp Tryd.prog ⟨some t, .call { callee := .value (.func 44), args := #[.tmp i], argTypes := ats }, ty, pos, af, none⟩ a X K Q := by
  have e1 := ev_tmp h1
  go_simp
  refine hC.mono (fun e w' hp => ?_)
  obtain ⟨x, rfl, hx⟩ := hK e w' hp
  exact hx
theorem opEqPn {t i j : Tmp} {ty : TypeId} {pos : String} {af : Array Edge} {ats : Array TypeId} {a : Act} {X : World} {K : Act → World → Prop} {Q : Exit → Act → World → Prop} {u v : Value} {post : Ending → World → Prop} (h1 : a.eval (.tmp i) = u) (h2 : a.eval (.tmp j) = v) (hC : Calls Tryd.prog 11 #[u, v] X post) (hK : ∀ e w', post e w' → ∃ x, e = .returned x ∧ K (a.put (some t) x) w') :
    Oper.wp Tryd.prog ⟨some t, .call { callee := .value (.func 11), args := #[.tmp i, .tmp j], argTypes := ats }, ty, pos, af, none⟩ a X K Q := by
  have e1 := ev_tmp h1
  have e2 := ev_tmp h2
  go_simp
  refine hC.mono (fun e w' hp => ?_)
  obtain ⟨x, rfl, hx⟩ := hK e w' hp
  exact hx
theorem opEqAn {t i j : Tmp} {ty : TypeId} {pos : String} {af : Array Edge} {ats : Array TypeId} {a : Act} {X : World} {K : Act → World → Prop} {Q : Exit → Act → World → Prop} {u v : Value} {post : Ending → World → Prop} (h1 : a.eval (.tmp i) = u) (h2 : a.eval (.tmp j) = v) (hC : Calls Tryd.prog 10 #[u, v] X post) (hK : ∀ e w', post e w' → ∃ x, e = .returned x ∧ K (a.put (some t) x) w') :
    Oper.wp Tryd.prog ⟨some t, .call { callee := .value (.func 10), args := #[.tmp i, .tmp j], argTypes := ats }, ty, pos, af, none⟩ a X K Q := by
  have e1 := ev_tmp h1
  have e2 := ev_tmp h2
  go_simp
  refine hC.mono (fun e w' hp => ?_)
  obtain ⟨x, rfl, hx⟩ := hK e w' hp
  exact hx
theorem opShS {t i j k : Tmp} {ty : TypeId} {pos : String} {af : Array Edge} {ats : Array TypeId} {a : Act} {X : World} {K : Act → World → Prop} {Q : Exit → Act → World → Prop} {u v x : Value} {post : Ending → World → Prop} (h1 : a.eval (.tmp i) = u) (h2 : a.eval (.tmp j) = v) (h3 : a.eval (.tmp k) = x) (hC : Calls Tryd.prog 28 #[u, v, x] X post) (hK : ∀ e w', post e w' → ∃ x, e = .returned x ∧ K (a.put (some t) x) w') :
    Oper.wp Tryd.prog ⟨some t, .call { callee := .value (.func 28), args := #[.tmp i, .tmp j, .tmp k], argTypes := ats }, ty, pos, af, none⟩ a X K Q := by
  have e1 := ev_tmp h1
  have e2 := ev_tmp h2
  have e3 := ev_tmp h3
  go_simp
  refine hC.mono (fun e w' hp => ?_)
  obtain ⟨x, rfl, hx⟩ := hK e w' hp
  exact hx
theorem opShI {t i j k : Tmp} {ty : TypeId} {pos : String} {af : Array Edge} {ats : Array TypeId} {a : Act} {X : World} {K : Act → World → Prop} {Q : Exit → Act → World → Prop} {u v x : Value} {post : Ending → World → Prop} (h1 : a.eval (.tmp i) = u) (h2 : a.eval (.tmp j) = v) (h3 : a.eval (.tmp k) = x) (hC : Calls Tryd.prog 45 #[u, v, x] X post) (hK : ∀ e w', post e w' → ∃ x, e = .returned x ∧ K (a.put (some t) x) w') :
    Oper.wp Tryd.prog ⟨some t, .call { callee := .value (.func 45), args := #[.tmp i, .tmp j, .tmp k], argTypes := ats }, ty, pos, af, none⟩ a X K Q := by
  have e1 := ev_tmp h1
  have e2 := ev_tmp h2
  have e3 := ev_tmp h3
  go_simp
  refine hC.mono (fun e w' hp => ?_)
  obtain ⟨x, rfl, hx⟩ := hK e w' hp
  exact hx
theorem opNotT {t i : Tmp} {ty : TypeId} {pos : String} {af : Array Edge} {a : Act} {X : World} {K : Act → World → Prop} {Q : Exit → Act → World → Prop} (h1 : a.eval (.tmp i) = .bool true) (hK : K (a.put (some t) (.bool false)) X) :
    Oper.wp Tryd.prog ⟨some t, .unOp .not 4 (.tmp i), ty, pos, af, none⟩ a X K Q := by
  have h := ev_tmp h1
  go_simp; exact hK
def RQp (vu vp : Value) (P : PenD) : Nat → World → Value → Prop
  | 0, _, v => v = vu
  | 1, _, v => v = vp
  | 2, X, v => RdP X v P
  | 3, _, v => v = .bool true
  | _, _, _ => True
theorem rqp_mono {vu vp : Value} {P : PenD} (i : Nat) (X Y : World) (v : Value) (h : RQp vu vp P i X v) (hb : Below X.heap.size X Y) : RQp vu vp P i Y v := by
  match i, h with
  | 0, h => exact h
  | 1, h => exact h
  | 2, h => exact rdP_later h hb
  | 3, h => exact h
  | n + 4, _ => exact trivial
def RQa (vu vp : Value) (A : AnsD) : Nat → World → Value → Prop
  | 0, _, v => v = vu
  | 1, _, v => v = vp
  | 2, X, v => RdA X v A
  | 3, _, v => v = .bool true
  | _, _, _ => True
theorem rqa_mono {vu vp : Value} {A : AnsD} (i : Nat) (X Y : World) (v : Value) (h : RQa vu vp A i X v) (hb : Below X.heap.size X Y) : RQa vu vp A i Y v := by
  match i, h with
  | 0, h => exact h
  | 1, h => exact h
  | 2, h => exact rdA_later h hb
  | 3, h => exact h
  | n + 4, _ => exact trivial

def KPn (B : Nat) (Q : PenD) (X : World) (v : Value) : Prop := ∃ y c, v = .agg #[.int .i64 Q.last, .slice y Q.sites.length c] ∧ ownS X B (.slice y Q.sites.length c) Q.sites
def KRes (B : Nat) (T : ByteArray) (Q : PenD) (X : World) (v : Value) : Prop := ∃ u, v = .tuple #[.string T, u] ∧ KPn B Q X u
theorem kpn_mono {B : Nat} {Q : PenD} {X Y : World} {v : Value} (h : KPn B Q X v) (hb : Below X.heap.size X Y) : KPn B Q Y v := h.imp fun y h => h.imp fun c h => ⟨h.1, ownS_later h.2 hb⟩
theorem kres_mono {B : Nat} {T : ByteArray} {Q : PenD} {X Y : World} {v : Value} (h : KRes B T Q X v) (hb : Below X.heap.size X Y) : KRes B T Q Y v := h.imp fun u h => ⟨h.1, kpn_mono h.2 hb⟩
/-- What the region yields that asks with three arguments. -/
def RSh (B : Nat) (vp vo va : Value) (P : PenD) (A : AnsD) (T : ByteArray) (Q : PenD) : Nat → World → Value → Prop
  | 0, _, v => v = vp
  | 1, X, v => RdP X v P
  | 2, _, v => v = vo
  | 3, _, v => v = vo
  | 4, _, v => v = va
  | 5, X, v => RdA X v A
  | 6, X, v => KRes B T Q X v
  | 7, X, v => KRes B T Q X v
  | 8, _, v => v = .string T
  | 9, X, v => KPn B Q X v
  | 10, X, v => KTwo B X v
  | 11, _, v => v = .string T
  | _, _, _ => True
theorem rsh_mono {B : Nat} {vp vo va : Value} {P : PenD} {A : AnsD} {T : ByteArray} {Q : PenD} (i : Nat) (X Y : World) (v : Value) (h : RSh B vp vo va P A T Q i X v) (hb : Below X.heap.size X Y) : RSh B vp vo va P A T Q i Y v := by
  match i, h with
  | 0, h => exact h
  | 1, h => exact rdP_later h hb
  | 2, h => exact h
  | 3, h => exact h
  | 4, h => exact h
  | 5, h => exact rdA_later h hb
  | 6, h => exact kres_mono h hb
  | 7, h => exact kres_mono h hb
  | 8, h => exact h
  | 9, h => exact kpn_mono h hb
  | 10, h => exact ktwo_mono B X Y v h hb
  | 11, h => exact h
  | n + 12, _ => exact trivial
/-- What the region yields that asks with what lies in boxes. -/
def RSx (B : Nat) (vp vo va : Value) (T : ByteArray) (Q : PenD) : Nat → World → Value → Prop
  | 0, _, v => v = vp
  | 1, _, v => v = vo
  | 2, _, v => v = vo
  | 3, _, v => v = va
  | 4, X, v => KRes B T Q X v
  | 5, X, v => KRes B T Q X v
  | 6, _, v => v = .string T
  | 7, X, v => KPn B Q X v
  | 8, X, v => KTwo B X v
  | 9, _, v => v = .string T
  | _, _, _ => True
theorem rsx_mono {B : Nat} {vp vo va : Value} {T : ByteArray} {Q : PenD} (i : Nat) (X Y : World) (v : Value) (h : RSx B vp vo va T Q i X v) (hb : Below X.heap.size X Y) : RSx B vp vo va T Q i Y v := by
  match i, h with
  | 0, h => exact h
  | 1, h => exact h
  | 2, h => exact h
  | 3, h => exact h
  | 4, h => exact kres_mono h hb
  | 5, h => exact kres_mono h hb
  | 6, h => exact h
  | 7, h => exact kpn_mono h hb
  | 8, h => exact ktwo_mono B X Y v h hb
  | 9, h => exact h
  | n + 10, _ => exact trivial
/-- What a ShowEvent answers. -/
def ShowAt (f : Nat) (P : PenD) (o : OpD) (A : AnsD) (T : List UInt8) (Q : PenD) (E : World → Prop) : Prop := ∀ X u ua, E X → RdP X u P → RdA X ua A → Calls Tryd.prog f #[u, opV o, ua] X fun e w' => ∃ x, e = .returned (.tuple #[.string (txt T), x]) ∧ OwnP w' X.heap.size x Q ∧ Below X.heap.size X w'
theorem rdA_ownI {X : World} {B : Nat} {A : AnsD} {a : Option Addr} {c : Nat} (h : ownI X B (.slice a A.freed.length c) A.freed) : RdA X (.agg #[.int .i64 A.code, .int .i64 A.val, .slice a A.freed.length c]) A := by
  obtain ⟨a', c', e', hr'⟩ := rdI_own' h
  simp only [Value.slice.injEq] at e'
  obtain ⟨rfl, -, rfl⟩ := e'
  exact ⟨a, c, rfl, hr'⟩
theorem ownP_kpn {X : World} {B C : Nat} {v : Value} {Q : PenD} (h : OwnP X B v Q) (hC : C ≤ B) : KPn C Q X v := by
  obtain ⟨vs, rfl, hs⟩ := h
  obtain ⟨y, c, rfl, -⟩ := rdS_own hs
  exact ⟨y, c, rfl, ownS_mono hs hC⟩
theorem kpn_rd {X : World} {B : Nat} {v : Value} {Q : PenD} (h : KPn B Q X v) : RdP X v Q := by
  obtain ⟨y, c, rfl, hs⟩ := h
  obtain ⟨y', c', e, hr⟩ := rdS_own hs
  simp only [Value.slice.injEq] at e
  obtain ⟨rfl, -, rfl⟩ := e
  exact ⟨y, c, rfl, hr.out⟩

end Go.Proofs.YtcjpepdagnifiaaDoor

namespace Go.Proofs.YtcjpepdagnifiaaDoor
open Go.RowKit
set_option linter.unusedVariables false
set_option maxRecDepth 100000

theorem eqOp_one (w : World) (o : OpD) :
    Calls Tryd.prog 9 #[opV o, opV o] w fun e w' => e = .returned (.bool true) ∧ Below w.heap.size w w' := by
  obtain ⟨k, a, b, c, s⟩ := o
  unfold opV
  simp only
  generalize txt s = t
  go_enter Tryd.func9, Tryd.ntmps9
  go_wp2
  go_ret
  exact ⟨rfl, ((Below.refl _ _).alloc (Nat.le_refl _) _).alloc (by simp) _⟩
/-- What a ReadEvent answers. -/
def ReadAt (f : Nat) (P : PenD) (l : List UInt8) (o : OpD) (A : AnsD) (Q : PenD) (qb : Bool) (E : World → Prop) : Prop := ∀ X u, E X → RdP X u P → Calls Tryd.prog f #[u, .string (txt l)] X fun e w' => EvPost X o A Q qb e w'
/-- Three boxes that hold an operation, an answer, a pen, and their rows from block B on. -/
structure Full (B b : Nat) (o : OpD) (A : AnsD) (Q : PenD) (y : Option Addr) (k : Nat) (x : Option Addr) (c : Nat) (X : World) : Prop where
  op : OB X b o.kind o.a o.b o.c (txt o.site)
  an : Three X (b + 1) (.int .i64 A.code) (.int .i64 A.val) (.slice y A.freed.length k)
  pn : Two X (b + 1 + 1) (.int .i64 Q.last) (.slice x Q.sites.length c)
  oi : ownI X B (.slice y A.freed.length k) A.freed
  os : ownS X B (.slice x Q.sites.length c) Q.sites
theorem Full.later {B b : Nat} {o : OpD} {A : AnsD} {Q : PenD} {y : Option Addr} {k : Nat} {x : Option Addr} {c : Nat} {X Y : World} (h : Full B b o A Q y k x c X) (hb : Below X.heap.size X Y) : Full B b o A Q y k x c Y :=
  ⟨(hb.block _ h.op.lt).trans h.op, h.an.later hb, h.pn.later hb, ownI_later h.oi hb, row_later h.os hb⟩
theorem Full.ra {B b : Nat} {o : OpD} {A : AnsD} {Q : PenD} {y : Option Addr} {k : Nat} {x : Option Addr} {c : Nat} {X : World} (h : Full B b o A Q y k x c X) : RdA X (.agg #[.int .i64 A.code, .int .i64 A.val, .slice y A.freed.length k]) A := rdA_ownI h.oi
theorem Full.rp {B b : Nat} {o : OpD} {A : AnsD} {Q : PenD} {y : Option Addr} {k : Nat} {x : Option Addr} {c : Nat} {X : World} (h : Full B b o A Q y k x c X) : RdP X (.agg #[.int .i64 Q.last, .slice x Q.sites.length c]) Q := kpn_rd ⟨x, c, rfl, h.os⟩
theorem Full.new {w Y : World} {B : Nat} {o : OpD} {A : AnsD} {Q : PenD} {y : Option Addr} {k : Nat} {x : Option Addr} {c : Nat} (h1 : ownI w B (.slice y A.freed.length k) A.freed) (h2 : ownS w B (.slice x Q.sites.length c) Q.sites) (hY : Y = ((w.alloc (.cells #[.int .i64 o.kind, .int .i64 o.a, .int .i64 o.b, .int .i64 o.c, .string (txt o.site)] 27)).alloc (.cells #[.int .i64 A.code, .int .i64 A.val, .slice y A.freed.length k] 30)).alloc (.cells #[.int .i64 Q.last, .slice x Q.sites.length c] 31)) :
    Full B w.heap.size o A Q y k x c Y ∧ Below w.heap.size w Y := by
  obtain ⟨X1, hX1⟩ : ∃ X1, X1 = w.alloc (.cells #[.int .i64 o.kind, .int .i64 o.a, .int .i64 o.b, .int .i64 o.c, .string (txt o.site)] 27) := ⟨_, rfl⟩
  obtain ⟨X2, hX2⟩ : ∃ X2, X2 = X1.alloc (.cells #[.int .i64 A.code, .int .i64 A.val, .slice y A.freed.length k] 30) := ⟨_, rfl⟩
  rw [← hX1, ← hX2] at hY
  have s1 : X1.heap.size = w.heap.size + 1 := by rw [hX1]; simp
  have s2 : X2.heap.size = w.heap.size + 1 + 1 := by rw [hX2]; simp [s1]
  have b1 : Below w.heap.size w X1 := by rw [hX1]; exact (Below.refl _ _).alloc (Nat.le_refl _) _
  have b2 : Below X1.heap.size X1 X2 := by rw [hX2]; exact (Below.refl _ _).alloc (Nat.le_refl _) _
  have b3 : Below X2.heap.size X2 Y := by rw [hY]; exact (Below.refl _ _).alloc (Nat.le_refl _) _
  have o1 : OB X1 w.heap.size o.kind o.a o.b o.c (txt o.site) := by rw [hX1]; exact heap_alloc_new w _
  have o2 : Three X2 (w.heap.size + 1) (.int .i64 A.code) (.int .i64 A.val) (.slice y A.freed.length k) := by rw [hX2, ← s1]; exact heap_alloc_new X1 _
  have o3 : Two Y (w.heap.size + 1 + 1) (.int .i64 Q.last) (.slice x Q.sites.length c) := by rw [hY, ← s2]; exact Two.new X2 _ _
  have b23 := b2.trans (b3.mono b2.size)
  have b13 := b1.trans (b23.mono b1.size)
  exact ⟨⟨(b23.block _ o1.lt).trans o1, o2.later b3, o3, ownI_later h1 b13, row_later h2 b13⟩, b13⟩
/-- Behind a pen that was marked, whose row lies elsewhere. -/
theorem Full.marked2 {B C b c2 : Nat} {a : Option Addr} {ss : List (List UInt8)} {o : OpD} {A : AnsD} {Q : PenD} {y : Option Addr} {k : Nat} {x : Option Addr} {c : Nat} {X Y : World} (h : Full B b o A Q y k x c X) (m : Mk a ss.length X Y) (ho : ownS X C (.slice a ss.length c2) ss) (hlt : ∀ x, a = some x → x.block < B) : Full B b o A Q y k x c Y :=
  ⟨(mk_kind m ho h.op (by decide)).trans h.op, (mk_kind m ho h.an (by decide)).trans h.an, mk_two m ho h.pn (by decide), mk_own_kind m ho h.oi (by decide), mk_own_lt m hlt h.os⟩
theorem marks_kept {X Y : World} {n : Nat} {b : Option Addr} {L : Sts} (m : Mk b n X Y) (hL : ∀ p ∈ L, X.cell? p.1 = some p.2) (hne : ∀ p ∈ L, ∀ x, b = some x → x.block ≠ p.1.block) : ∀ p ∈ L, Y.cell? p.1 = some p.2 := fun p hp =>
  (World.cell?_of_block (m.block _ (World.block_lt_of_cell? X _ (hL p hp)) (fun _ x hx => hne p hp x hx))).trans (hL p hp)
theorem Full.apart {B b : Nat} {o : OpD} {A : AnsD} {Q : PenD} {y : Option Addr} {k : Nat} {x : Option Addr} {c : Nat} {X : World} (h : Full B b o A Q y k x c X) : ∀ p ∈ mkI y 1 A.freed.length, ∀ z, x = some z → z.block ≠ p.1.block := fun p hp z hz => by
  obtain ⟨-, x', hx', e⟩ := mkI_block _ _ _ p hp
  obtain ⟨-, -, c1, h1⟩ := row_blk h.oi x' hx'
  obtain ⟨-, -, c2, h2⟩ := row_blk h.os z hz
  rw [e]
  exact kind_ne h2 h1 (by decide)
theorem markAns_mk (w : World) (c v : Int) (a : Option Addr) (n cap : Nat) (k : Int) (h : CanI w a n) (hz : n ≤ 16777216) (h0 : 0 ≤ k) (h1 : k ≤ 1000000000000) :
    Calls Tryd.prog 13 #[.agg #[.int .i64 c, .int .i64 v, .slice a n cap], .int .i64 k] w fun e w' => e = .returned (.int .i64 (k + (n : Int))) ∧ Mk a n w w' ∧ ∀ p ∈ mkI a k n, w'.cell? p.1 = some p.2 := by
  refine (markAnswer_st w c v a n cap k h hz h0 (by omega)).mono ?_
  rintro e w' ⟨rfl, w1, rfl, b1⟩
  refine ⟨rfl, mk_of b1 (Below.refl _ _) (fun p hp => mkI_block a k n p hp), fun p hp => ?_⟩
  have hc : CanI w1 a n := canI_later h b1
  exact stores_mem _ (mkI_nodup a k n) w1 (fun q hq => mkI_some hc q hq) p hp

end Go.Proofs.YtcjpepdagnifiaaDoor

namespace Go.Proofs.YtcjpepdagnifiaaDoor
open Go.RowKit
set_option linter.unusedVariables false
set_option maxRecDepth 100000

set_option maxHeartbeats 4000000 in
theorem read_law (v0 : Value) (P : PenD) (l : List UInt8) (w : World) (r0 : RdP w v0 P) (y0 : SaneP P) (hl0 : l.length ≤ 9223372036854775807) (o : OpD) (A : AnsD) (Q : PenD) (qb : Bool) (E : World → Prop) (hE : ∀ X, Below w.heap.size w X → E X)
    (hG : SmallP P → l.length ≤ 1048576 → Q.sites.length ≤ 1048577 ∧ A.freed.length ≤ 1048576) (hS : SmallP P → l.length ≤ 1048576 → ReadAt 6 P l o A Q qb E) (hI : SmallP P → l.length ≤ 1048576 → ReadAt 8 P l o A Q qb E) :
    Calls Tryd.prog 3 #[v0, .string (txt l)] w fun e w' => e = .returned (.bool true) ∧ Below w.heap.size w w' := by
  have RP0 : Hid (∀ X, Below w.heap.size w X → RdP X v0 P) := fun X hX => rdP_later r0 hX
  have HEX : Hid (∀ X, Below w.heap.size w X → E X) := hE
  have CZ1 : Hid (∀ X, Below w.heap.size w X → _) := fun X hX => szPen_calls X v0 P 1048576 (RP0.out X hX) y0 (by omega) (by omega)
  obtain ⟨pl, pa, pn, pc, hv0⟩ := rdP_form r0
  obtain ⟨W, hW⟩ : ∃ W, W = w.alloc (.cells #[.int .i64 pl, .slice pa pn pc] 24) := ⟨_, rfl⟩
  have BW : Below w.heap.size w W := by rw [hW]; exact (Below.refl _ _).alloc (Nat.le_refl _) _
  have sW : W.heap.size = w.heap.size + 1 := by rw [hW]; simp
  have HL : Hid (∀ X, Below W.heap.size W X → X.cell? ⟨w.heap.size, 0, none⟩ = some (.int .i64 pl) ∧ X.cell? ⟨w.heap.size, 1, none⟩ = some (.slice pa pn pc)) := fun X hX =>
    two_kept w 24 (.int .i64 pl) (.slice pa pn pc) X (by rw [sW, hW] at hX; exact hX)
  have HWB : Hid (∀ X, Below W.heap.size W X → Below w.heap.size w X) := fun X hX => BW.trans (hX.mono BW.size)
  have HBW : Hid (Below w.heap.size w W) := BW
  have hls : (txt l).size = l.length := rfl
  by_cases hlen : 1048576 < l.length
  · have hgt : (1048576 : Int) < (l.length : Int) := by omega
    clear hS hI hG CZ1 HL RP0 HEX hE
    subst hv0
    generalize l.length = n at *
    go_enter Tryd.func3, Tryd.ntmps3
    go_wp2
    rw [← hW]
    go_ret
    exact ⟨rfl, HBW.out⟩
  have hgt : ¬ ((1048576 : Int) < (l.length : Int)) := by omega
  have hzl := szP_le P 1048576 (by omega)
  by_cases hz : szP P 1048576 < 0
  · clear hS hI hG HL HEX hE RP0
    generalize szP P 1048576 = z at *
    subst hv0
    generalize l.length = n at *
    go_enter Tryd.func3, Tryd.ntmps3
    go_wp2_with fail
    rw [← hW]
    clear hW
    refine (CZ1.out _ HBW.out).mono ?_
    rintro e w1 ⟨rfl, t1⟩
    have B1 := HBW.out.trans (t1.mono HBW.out.size)
    go_wp2
    go_ret
    exact ⟨rfl, B1⟩
  have hsm := szP_small P 1048576 (by omega) (by omega) hz
  have hll : l.length ≤ 1048576 := by omega
  obtain ⟨hQn, hAn⟩ := hG hsm hll
  have CTP : Hid (∀ X, Below w.heap.size w X → _) := fun X hX => toPen_calls X v0 P (RP0.out X hX) hsm
  have CS : Hid (∀ X u, E X → RdP X u P → _) := hS hsm hll
  have CI : Hid (∀ X u, E X → RdP X u P → _) := hI hsm hll
  have CEP : Hid (∀ X x y, RdP X x P → RdP X y P → _) := fun X x y h1 h2 => eqPen_big X x y P h1 h2 (by have := hsm.sites; omega)
  have CEQ : Hid (∀ X x y, RdP X x Q → RdP X y Q → _) := fun X x y h1 h2 => eqPen_big X x y Q h1 h2 (by omega)
  have CEA : Hid (∀ X x y, RdA X x A → RdA X y A → _) := fun X x y h1 h2 => eqAnswer_calls X x y A h1 h2 (by omega)
  have CEO : Hid (∀ X : World, _) := fun X => eqOp_one X o
  unfold opV at CEO
  have hPn := hsm.sites
  have hopv : opV o = .agg #[.int .i64 o.kind, .int .i64 o.a, .int .i64 o.b, .int .i64 o.c, .string (txt o.site)] := rfl
  have HOPV : Hid (opV o = .agg #[.int .i64 o.kind, .int .i64 o.a, .int .i64 o.b, .int .i64 o.c, .string (txt o.site)]) := hopv
  have hqb : (qb != qb) = false := by cases qb <;> rfl
  clear hS hI hG hsm RP0 hopv hE BW sW
  obtain ⟨z, hzz⟩ : ∃ z, szP P 1048576 = z := ⟨_, rfl⟩
  rw [hzz] at CZ1 hz
  clear hzz hzl
  subst hv0
  go_enter Tryd.func3, Tryd.ntmps3
  go_wp2_with fail
  rw [← hW]
  clear hW
  refine (CZ1.out _ HBW.out).mono ?_
  rintro e w1 ⟨rfl, T1⟩
  obtain ⟨c0, c1⟩ := HL.out _ T1
  clear CZ1
  go_wp2_with fail
  refine (CTP.out _ (HWB.out _ T1)).mono ?_
  rintro e w2 ⟨u2, rfl, O2, t2⟩
  have T2 := T1.trans (t2.mono T1.size)
  obtain ⟨y2, k2, rfl, hO2⟩ := ownP_kpn O2 (Nat.le_refl _)
  clear c0 c1 t2 O2
  go_wp2_with fail
  refine (CS.out _ _ (HEX.out _ (HWB.out _ T2)) (kpn_rd ⟨y2, k2, rfl, hO2⟩)).mono ?_
  rintro e w3 ⟨y3, k3, x3, c3, rfl, hI3, hS3, t3⟩
  have T3 := T2.trans (t3.mono T2.size)
  rw [HOPV.out]
  clear CS hO2 t3
  obtain ⟨Y1, hY1⟩ : ∃ Y1, Y1 = ((w3.alloc (.cells #[.int .i64 o.kind, .int .i64 o.a, .int .i64 o.b, .int .i64 o.c, .string (txt o.site)] 27)).alloc (.cells #[.int .i64 A.code, .int .i64 A.val, .slice y3 A.freed.length k3] 30)).alloc (.cells #[.int .i64 Q.last, .slice x3 Q.sites.length c3] 31) := ⟨_, rfl⟩
  obtain ⟨hX1, BY1⟩ := Full.new hI3 hS3 hY1
  have TY1 : Below W.heap.size W Y1 := T3.trans (BY1.mono T3.size)
  have q01 := HL.out Y1 TY1
  rw [hY1] at q01
  obtain ⟨q0, q1⟩ := q01
  have HX : Hid (∀ X, Below Y1.heap.size Y1 X → Full w2.heap.size w3.heap.size o A Q y3 k3 x3 c3 X) := fun X hX => hX1.later hX
  have HU1 : Hid (∀ X, Below Y1.heap.size Y1 X → Below W.heap.size W X) := fun X hX => TY1.trans (hX.mono TY1.size)
  clear hX1 BY1 T3 hI3 hS3
  go_wp2_with fail
  rw [← hY1]
  clear hY1 q0 q1
  refine (CTP.out _ (HWB.out _ (HU1.out _ (Below.refl _ _)))).mono ?_
  rintro e w4 ⟨u4, rfl, O4, t4⟩
  obtain ⟨y4, k4, rfl, hO4⟩ := ownP_kpn O4 (Nat.le_refl _)
  obtain ⟨V4, hV4⟩ : ∃ V4, V4 = w4.alloc (.cells #[.int .i64 P.last, .slice y4 P.sites.length k4] 31) := ⟨_, rfl⟩
  have BV4 : Below w4.heap.size w4 V4 := by rw [hV4]; exact (Below.refl _ _).alloc (Nat.le_refl _) _
  have F4 : Below Y1.heap.size Y1 V4 := t4.trans (BV4.mono t4.size)
  have HT4 : Hid (Two V4 w4.heap.size (.int .i64 P.last) (.slice y4 P.sites.length k4)) := by rw [hV4]; exact Two.new w4 _ _
  have HO4 : Hid (ownS V4 Y1.heap.size (.slice y4 P.sites.length k4) P.sites) := row_later hO4 BV4
  clear O4 hO4 BV4 t4
  go_wp2_with fail
  rw [← hV4]
  clear hV4
  refine (CI.out _ _ (HEX.out _ (HWB.out _ (HU1.out _ F4))) (kpn_rd ⟨y4, k4, rfl, HO4.out⟩)).mono ?_
  rintro e w5 ⟨y5, k5, x5, c5, rfl, hI5, hS5, t5⟩
  rw [HOPV.out]
  obtain ⟨Y2, hY2⟩ : ∃ Y2, Y2 = ((w5.alloc (.cells #[.int .i64 o.kind, .int .i64 o.a, .int .i64 o.b, .int .i64 o.c, .string (txt o.site)] 27)).alloc (.cells #[.int .i64 A.code, .int .i64 A.val, .slice y5 A.freed.length k5] 30)).alloc (.cells #[.int .i64 Q.last, .slice x5 Q.sites.length c5] 31) := ⟨_, rfl⟩
  obtain ⟨hG5, BY2⟩ := Full.new hI5 hS5 hY2
  have F5 : Below V4.heap.size V4 Y2 := t5.trans (BY2.mono t5.size)
  have HBY2 : Hid (Below Y1.heap.size Y1 Y2) := F4.trans (F5.mono F4.size)
  have HG : Hid (Full V4.heap.size w5.heap.size o A Q y5 k5 x5 c5 Y2) := hG5
  have HT5 : Hid (Two Y2 w4.heap.size (.int .i64 P.last) (.slice y4 P.sites.length k4)) := HT4.out.later F5
  have HO5 : Hid (ownS Y2 Y1.heap.size (.slice y4 P.sites.length k4) P.sites) := row_later HO4.out F5
  have HV4L : Hid (∀ x, y4 = some x → x.block < V4.heap.size) := fun x hx => (row_blk HO4.out x hx).2.1
  have HS4 : Hid (Y1.heap.size ≤ V4.heap.size) := F4.size
  obtain ⟨f0, f1, f2, f3, f4⟩ := (HX.out _ HBY2.out).op.cells
  rw [hY2] at f0 f1 f2 f3 f4
  clear hG5 BY2 F4 F5 t5 hI5 hS5 HT4 HO4
  go_wp2_with fail
  rw [← hY2]
  clear hY2 f0 f1 f2 f3 f4
  refine (CEO.out _).mono ?_
  rintro e w6a ⟨rfl, ba⟩
  have Hw6a : Hid (Below Y2.heap.size Y2 w6a) := ba
  have HGw6a : Hid _ := HG.out.later ba
  have HBw6a : Hid (Below Y1.heap.size Y1 w6a) := HBY2.out.trans (ba.mono HBY2.out.size)
  clear ba
  obtain ⟨g0, g1, g2⟩ : _ ∧ _ ∧ _ := ⟨HGw6a.out.an.cell 0, HGw6a.out.an.cell 1, HGw6a.out.an.cell 2⟩
  obtain ⟨f0, f1, f2⟩ : _ ∧ _ ∧ _ := ⟨(HX.out _ HBw6a.out).an.cell 0, (HX.out _ HBw6a.out).an.cell 1, (HX.out _ HBw6a.out).an.cell 2⟩
  simp only [List.getElem?_toArray, List.getElem?_cons_zero, List.getElem?_cons_succ] at g0 g1 g2 f0 f1 f2
  go_wp2_with fail
  refine (CEA.out _ _ _ HGw6a.out.ra (HX.out _ HBw6a.out).ra).mono ?_
  rintro e w6b ⟨rfl, bb⟩
  have Hw6b : Hid (Below Y2.heap.size Y2 w6b) := Hw6a.out.trans (bb.mono Hw6a.out.size)
  have HGw6b : Hid _ := HGw6a.out.later bb
  have HBw6b : Hid (Below Y1.heap.size Y1 w6b) := HBw6a.out.trans (bb.mono HBw6a.out.size)
  clear bb g0 g1 g2 f0 f1 f2 Hw6a HGw6a HBw6a
  obtain ⟨g0, g1⟩ := HGw6b.out.pn.cells
  obtain ⟨f0, f1⟩ := (HX.out _ HBw6b.out).pn.cells
  go_wp2_with fail
  refine (CEQ.out _ _ _ HGw6b.out.rp (HX.out _ HBw6b.out).rp).mono ?_
  rintro e w6 ⟨rfl, bc⟩
  have Hw6 : Hid (Below Y2.heap.size Y2 w6) := Hw6b.out.trans (bc.mono Hw6b.out.size)
  have HGw6 : Hid _ := HGw6b.out.later bc
  have HBw6 : Hid (Below Y1.heap.size Y1 w6) := HBw6b.out.trans (bc.mono HBw6b.out.size)
  clear bc g0 g1 f0 f1 Hw6b HGw6b HBw6b
  have HT6 : Hid (Two w6 w4.heap.size (.int .i64 P.last) (.slice y4 P.sites.length k4)) := HT5.out.later Hw6.out
  have HO6 : Hid (ownS w6 Y1.heap.size (.slice y4 P.sites.length k4) P.sites) := row_later HO5.out Hw6.out
  have H6U : Hid (∀ X, Below w6.heap.size w6 X → Below W.heap.size W X) := fun X hX => HU1.out X (HBw6.out.trans (hX.mono HBw6.out.size))
  clear HT5 HO5 Hw6 HG HBY2
  go_wp2
  refine wp_region_last 4 (by kernel_rfl) (by kernel_rfl) (RQp (.agg #[.int .i64 P.last, .slice y4 P.sites.length k4]) (.agg #[.int .i64 pl, .slice pa pn pc]) P) rqp_mono ?_ ?_
  · intro i o_ hi ho a X hX hA hdep
    have hUP := H6U.out X hX
    match i, hi, ho with
    | 0, _, ho =>
      obtain rfl := Option.some.inj ho
      exact opLoadPn (alike_at hA (t := 10) (by kernel_rfl)) (HT6.out.later hX).cells ⟨_, rfl, Below.refl _ _, rfl⟩
    | 1, _, ho =>
      obtain rfl := Option.some.inj ho
      exact opLoadLPn (alike_at hA (t := 2) (by kernel_rfl)) (HL.out X hUP) ⟨_, rfl, Below.refl _ _, rfl⟩
    | 2, _, ho =>
      obtain rfl := Option.some.inj ho
      have g0 : a.eval (.tmp 71) = (.agg #[.int .i64 pl, .slice pa pn pc]) := hdep ⟨1, .data⟩ (by simp) rfl 71 rfl
      exact opToPen g0 (CTP.out X (HWB.out X hUP)) (fun e w' ⟨u, h1, h2, h3⟩ => ⟨_, h1, _, rfl, h3, ownP_rd h2⟩)
    | 3, _, ho =>
      obtain rfl := Option.some.inj ho
      have g0 : a.eval (.tmp 70) = (.agg #[.int .i64 P.last, .slice y4 P.sites.length k4]) := hdep ⟨0, .data⟩ (by simp) rfl 70 rfl
      have g1 : RdP X (a.eval (.tmp 72)) P := hdep ⟨2, .data⟩ (by simp) rfl 72 rfl
      exact opEqPn g0 rfl (CEP.out X _ _ (kpn_rd ⟨y4, k4, rfl, row_later HO6.out hX⟩) g1) (fun e w' ⟨h1, h2⟩ => ⟨_, h1, _, rfl, h2, rfl⟩)
  · intro o_ ho a X7 hX hA hdep
    obtain rfl := Option.some.inj ho
    have e1 : a.eval (.tmp 73) = .bool true := hdep ⟨3, .data⟩ (by simp) rfl 73 rfl
    refine opNotT e1 ?_
    obtain ⟨us, hus, rfl⟩ := alike_tmps hA [70, 71, 72, 73, 74] (by kernel_rfl)
    clear hdep hA hus e1 ho
    simp only [List.mapIdx_cons, List.mapIdx_nil, Nat.reduceAdd, List.contains_cons, List.contains_nil, Nat.reduceBEq, Bool.or_false, Bool.or_true, if_true, if_false, Bool.false_eq_true]
    simp only [Act.put, List.setIfInBounds_toArray, List.set_cons_succ, List.set_cons_zero]
    have HX7 : Hid (Below w6.heap.size w6 X7) := hX
    have HT7 : Hid (Two X7 w4.heap.size (.int .i64 P.last) (.slice y4 P.sites.length k4)) := HT6.out.later hX
    have HO7 : Hid (ownS X7 Y1.heap.size (.slice y4 P.sites.length k4) P.sites) := row_later HO6.out hX
    have HG7 : Hid _ := HGw6.out.later hX
    have HB7 : Hid (Below Y1.heap.size Y1 X7) := HBw6.out.trans (hX.mono HBw6.out.size)
    clear hX HT6 HO6 HGw6 HBw6 H6U HX7
    obtain ⟨x0, x1⟩ := HT7.out.cells
    go_wp2_with fail
    refine (markPen_1 X7 P.last y4 P.sites.length k4 (canS_own HO7.out) (by omega)).mono ?_
    rintro e w9 ⟨rfl, m9, -⟩
    have HBw9 : Hid (Below Y1.heap.size Y1 w9) := HB7.out.trans (mk_below m9 HB7.out.size (fun x hx => (row_blk HO7.out x hx).1))
    have HG9 : Hid _ := HG7.out.marked2 m9 HO7.out HV4L.out
    clear m9 x0 x1 HT7 HO7 HG7 HB7 HV4L
    have hk9 : ¬ (1 + (P.sites.length : Int) < 0) := by omega
    obtain ⟨g0, g1, g2, g3, g4⟩ := HG9.out.op.cells
    obtain ⟨f0, f1, f2, f3, f4⟩ := (HX.out _ HBw9.out).op.cells
    go_wp2_with fail
    clear g0 g1 g2 g3 g4 f0 f1 f2 f3 f4
    refine (CEO.out _).mono ?_
    rintro e w10a ⟨rfl, ba⟩
    have Hw10a : Hid (Below w9.heap.size w9 w10a) := ba
    have HGw10a : Hid _ := HG9.out.later ba
    have HBw10a : Hid (Below Y1.heap.size Y1 w10a) := HBw9.out.trans (ba.mono HBw9.out.size)
    clear ba
    obtain ⟨g0, g1, g2⟩ : _ ∧ _ ∧ _ := ⟨HGw10a.out.an.cell 0, HGw10a.out.an.cell 1, HGw10a.out.an.cell 2⟩
    obtain ⟨f0, f1, f2⟩ : _ ∧ _ ∧ _ := ⟨(HX.out _ HBw10a.out).an.cell 0, (HX.out _ HBw10a.out).an.cell 1, (HX.out _ HBw10a.out).an.cell 2⟩
    simp only [List.getElem?_toArray, List.getElem?_cons_zero, List.getElem?_cons_succ] at g0 g1 g2 f0 f1 f2
    go_wp2_with fail
    refine (CEA.out _ _ _ HGw10a.out.ra (HX.out _ HBw10a.out).ra).mono ?_
    rintro e w10b ⟨rfl, bb⟩
    have Hw10b : Hid (Below w9.heap.size w9 w10b) := Hw10a.out.trans (bb.mono Hw10a.out.size)
    have HGw10b : Hid _ := HGw10a.out.later bb
    have HBw10b : Hid (Below Y1.heap.size Y1 w10b) := HBw10a.out.trans (bb.mono HBw10a.out.size)
    clear bb g0 g1 g2 f0 f1 f2 Hw10a HGw10a HBw10a
    obtain ⟨g0, g1⟩ := HGw10b.out.pn.cells
    obtain ⟨f0, f1⟩ := (HX.out _ HBw10b.out).pn.cells
    go_wp2_with fail
    refine (CEQ.out _ _ _ HGw10b.out.rp (HX.out _ HBw10b.out).rp).mono ?_
    rintro e w10 ⟨rfl, bc⟩
    have Hw10 : Hid (Below w9.heap.size w9 w10) := Hw10b.out.trans (bc.mono Hw10b.out.size)
    have HGw10 : Hid _ := HGw10b.out.later bc
    have HBw10 : Hid (Below Y1.heap.size Y1 w10) := HBw10b.out.trans (bc.mono HBw10b.out.size)
    clear bc g0 g1 f0 f1 Hw10b HGw10b HBw10b
    clear hk9 HG9 Hw10
    obtain ⟨g0, g1, g2⟩ : _ ∧ _ ∧ _ := ⟨HGw10.out.an.cell 0, HGw10.out.an.cell 1, HGw10.out.an.cell 2⟩
    simp only [List.getElem?_toArray, List.getElem?_cons_zero, List.getElem?_cons_succ] at g0 g1 g2
    go_wp2_with fail
    refine (markAns_mk w10 A.code A.val y5 A.freed.length k5 1 (canI_own2 HGw10.out.oi) (by omega) (by omega) (by omega)).mono ?_
    rintro e w11 ⟨rfl, m11, hI11⟩
    have HBw11 : Hid (Below Y1.heap.size Y1 w11) := HBw10.out.trans (mk_below m11 HBw10.out.size (fun x hx => Nat.le_trans HS4.out (row_blk HGw10.out.oi x hx).1))
    have HAN11 : Hid (Three w11 (w5.heap.size + 1) (.int .i64 A.code) (.int .i64 A.val) (.slice y5 A.freed.length k5)) := (mk_kind m11 HGw10.out.oi HGw10.out.an (by decide)).trans HGw10.out.an
    have HPN11 : Hid (Two w11 (w5.heap.size + 1 + 1) (.int .i64 Q.last) (.slice x5 Q.sites.length c5)) := mk_two m11 HGw10.out.oi HGw10.out.pn (by decide)
    have HOS11 : Hid (ownS w11 V4.heap.size (.slice x5 Q.sites.length c5) Q.sites) := mk_own_kind m11 HGw10.out.oi HGw10.out.os (by decide)
    have HIM11 : Hid (∀ p ∈ mkI y5 1 A.freed.length, w11.cell? p.1 = some p.2) := hI11
    have HAP : Hid (∀ p ∈ mkI y5 1 A.freed.length, ∀ z, x5 = some z → z.block ≠ p.1.block) := HGw10.out.apart
    have HCI : Hid (0 < A.freed.length → ∃ g off, y5 = some ⟨g, off, none⟩) := fun h0 => canI_at (canI_own2 HGw10.out.oi) h0
    have HKN : Hid ((1 : Int) + (A.freed.length : Int) = ((1 + A.freed.length : Nat) : Int)) := by show _ = _; omega
    clear m11 hI11 g0 g1 g2 HGw10 HBw10
    obtain ⟨g0, g1⟩ := HPN11.out.cells
    have CMP11 : Hid (∀ _ : Unit, _) := fun (_ : Unit) => markPen_m w11 Q.last x5 Q.sites.length c5 (1 + A.freed.length) (canS_own HOS11.out) (by omega) (by omega) (by omega)
    rw [← HKN.out] at CMP11
    go_wp2_with fail
    refine (CMP11.out ()).mono ?_
    rintro e w12 ⟨rfl, m12, hS12⟩
    have HBw12 : Hid (Below Y1.heap.size Y1 w12) := HBw11.out.trans (mk_below m12 HBw11.out.size (fun x hx => Nat.le_trans HS4.out (row_blk HOS11.out x hx).1))
    have HAN : Hid (∀ X, Below w12.heap.size w12 X → Three X (w5.heap.size + 1) (.int .i64 A.code) (.int .i64 A.val) (.slice y5 A.freed.length k5)) := fun X hX => Three.later ((mk_kind m12 HOS11.out HAN11.out (by decide)).trans HAN11.out) hX
    have HPN : Hid (∀ X, Below w12.heap.size w12 X → Two X (w5.heap.size + 1 + 1) (.int .i64 Q.last) (.slice x5 Q.sites.length c5)) := fun X hX => Two.later (mk_two m12 HOS11.out HPN11.out (by decide)) hX
    have hIM12 := marks_kept m12 HIM11.out HAP.out
    have HIM : Hid (∀ X, Below w12.heap.size w12 X → ∀ p ∈ mkI y5 1 A.freed.length, X.cell? p.1 = some p.2) := fun X hX p hp => (hX.cell (World.block_lt_of_cell? w12 _ (hIM12 p hp))).trans (hIM12 p hp)
    have HSM : Hid (∀ X, Below w12.heap.size w12 X → ∀ p ∈ mkS x5 (1 + A.freed.length) Q.sites.length, X.cell? p.1 = some p.2) := fun X hX p hp => (hX.cell (World.block_lt_of_cell? w12 _ (hS12 p hp))).trans (hS12 p hp)
    have HCS : Hid (0 < Q.sites.length → ∃ g off, x5 = some ⟨g, off, none⟩) := fun h0 => canI_at (canS_own HOS11.out) h0
    clear m12 hS12 hIM12 g0 g1 HAN11 HPN11 HOS11 HIM11 HAP HBw11 CMP11
    have CHA : Hid (∀ X, Below w12.heap.size w12 X → _) := fun X hX => heldAnswer_at X A.code A.val y5 A.freed.length k5 1 (HIM.out X hX) HCI.out (by omega) (by omega) (by omega)
    unfold ansV at CHA
    have CHP : Hid (∀ X, Below w12.heap.size w12 X → _) := fun X hX => heldPen_m X Q.last x5 Q.sites.length c5 (1 + A.freed.length) (HSM.out X hX) HCS.out (by omega) (by omega) (by omega)
    rw [← HKN.out] at CHP
    have hq1 : ¬ (1 + (A.freed.length : Int) < 0) := by omega
    have hq3 : ¬ (1 + (A.freed.length : Int) + (Q.sites.length : Int) < 0) := by omega
    clear HIM HSM HCI HCS
    obtain ⟨g0, g1, g2⟩ : _ ∧ _ ∧ _ := ⟨(HAN.out _ (Below.refl _ _)).cell 0, (HAN.out _ (Below.refl _ _)).cell 1, (HAN.out _ (Below.refl _ _)).cell 2⟩
    simp only [List.getElem?_toArray, List.getElem?_cons_zero, List.getElem?_cons_succ] at g0 g1 g2
    go_wp2_with fail
    refine (CHA.out _ (Below.refl _ _)).mono ?_
    rintro e w13 ⟨rfl, t13⟩
    clear g0 g1 g2
    obtain ⟨g0, g1⟩ := (HPN.out _ t13).cells
    go_wp2_with fail
    refine (CHP.out _ t13).mono ?_
    rintro e w14 ⟨rfl, u14⟩
    have t14 : Below w12.heap.size w12 w14 := t13.trans (u14.mono t13.size)
    clear g0 g1 t13 u14
    have HB14 : Hid (Below Y1.heap.size Y1 w14) := HBw12.out.trans (t14.mono HBw12.out.size)
    have H14 : Hid (∀ X, Below w14.heap.size w14 X → Below w12.heap.size w12 X) := fun X hX => t14.trans (hX.mono t14.size)
    obtain ⟨c0, c1⟩ := HL.out _ (HU1.out _ HB14.out)
    go_wp2_with fail
    refine (CTP.out _ (HWB.out _ (HU1.out _ HB14.out))).mono ?_
    rintro e w15 ⟨u15, rfl, O15, t15⟩
    obtain ⟨y15, k15, rfl, hO15⟩ := ownP_kpn O15 (Nat.le_refl _)
    clear c0 c1 O15
    have F15 : Below Y1.heap.size Y1 w15 := HB14.out.trans (t15.mono HB14.out.size)
    go_wp2_with fail
    refine (CI.out _ _ (HEX.out _ (HWB.out _ (HU1.out _ F15))) (kpn_rd ⟨y15, k15, rfl, hO15⟩)).mono ?_
    rintro e w16 ⟨y16, k16, x16, c16, rfl, hI16, hS16, t16⟩
    rw [HOPV.out]
    obtain ⟨Y3, hY3⟩ : ∃ Y3, Y3 = ((w16.alloc (.cells #[.int .i64 o.kind, .int .i64 o.a, .int .i64 o.b, .int .i64 o.c, .string (txt o.site)] 27)).alloc (.cells #[.int .i64 A.code, .int .i64 A.val, .slice y16 A.freed.length k16] 30)).alloc (.cells #[.int .i64 Q.last, .slice x16 Q.sites.length c16] 31) := ⟨_, rfl⟩
    obtain ⟨hG16, BY3⟩ := Full.new hI16 hS16 hY3
    have F16 : Below w15.heap.size w15 Y3 := t16.trans (BY3.mono t16.size)
    have HBY3 : Hid (Below Y1.heap.size Y1 Y3) := F15.trans (F16.mono F15.size)
    have H3U : Hid (∀ X, Below Y3.heap.size Y3 X → Below w12.heap.size w12 X) := fun X hX => H14.out X ((t15.trans (F16.mono t15.size)).trans (hX.mono (t15.trans (F16.mono t15.size)).size))
    have HG2 : Hid (Full w15.heap.size w16.heap.size o A Q y16 k16 x16 c16 Y3) := hG16
    obtain ⟨f0, f1, f2, f3, f4⟩ := (HX.out _ HBY3.out).op.cells
    rw [hY3] at f0 f1 f2 f3 f4
    clear hG16 BY3 F15 F16 t15 t16 hI16 hS16 hO15 HB14 H14 HBw12
    go_wp2_with fail
    rw [← hY3]
    clear hY3 f0 f1 f2 f3 f4
    refine (CEO.out _).mono ?_
    rintro e w17a ⟨rfl, ba⟩
    have Hw17a : Hid (Below Y3.heap.size Y3 w17a) := ba
    have HGw17a : Hid _ := HG2.out.later ba
    have HBw17a : Hid (Below Y1.heap.size Y1 w17a) := HBY3.out.trans (ba.mono HBY3.out.size)
    clear ba
    obtain ⟨g0, g1, g2⟩ : _ ∧ _ ∧ _ := ⟨HGw17a.out.an.cell 0, HGw17a.out.an.cell 1, HGw17a.out.an.cell 2⟩
    obtain ⟨f0, f1, f2⟩ : _ ∧ _ ∧ _ := ⟨(HX.out _ HBw17a.out).an.cell 0, (HX.out _ HBw17a.out).an.cell 1, (HX.out _ HBw17a.out).an.cell 2⟩
    simp only [List.getElem?_toArray, List.getElem?_cons_zero, List.getElem?_cons_succ] at g0 g1 g2 f0 f1 f2
    go_wp2_with fail
    refine (CEA.out _ _ _ HGw17a.out.ra (HX.out _ HBw17a.out).ra).mono ?_
    rintro e w17b ⟨rfl, bb⟩
    have Hw17b : Hid (Below Y3.heap.size Y3 w17b) := Hw17a.out.trans (bb.mono Hw17a.out.size)
    have HGw17b : Hid _ := HGw17a.out.later bb
    have HBw17b : Hid (Below Y1.heap.size Y1 w17b) := HBw17a.out.trans (bb.mono HBw17a.out.size)
    clear bb g0 g1 g2 f0 f1 f2 Hw17a HGw17a HBw17a
    obtain ⟨g0, g1⟩ := HGw17b.out.pn.cells
    obtain ⟨f0, f1⟩ := (HX.out _ HBw17b.out).pn.cells
    go_wp2_with fail
    refine (CEQ.out _ _ _ HGw17b.out.rp (HX.out _ HBw17b.out).rp).mono ?_
    rintro e w17 ⟨rfl, bc⟩
    have Hw17 : Hid (Below Y3.heap.size Y3 w17) := Hw17b.out.trans (bc.mono Hw17b.out.size)
    have HGw17 : Hid _ := HGw17b.out.later bc
    have HBw17 : Hid (Below Y1.heap.size Y1 w17) := HBw17b.out.trans (bc.mono HBw17b.out.size)
    clear bc g0 g1 f0 f1 Hw17b HGw17b HBw17b
    obtain ⟨g0, g1, g2⟩ : _ ∧ _ ∧ _ := ⟨(HAN.out _ (H3U.out _ Hw17.out)).cell 0, (HAN.out _ (H3U.out _ Hw17.out)).cell 1, (HAN.out _ (H3U.out _ Hw17.out)).cell 2⟩
    simp only [List.getElem?_toArray, List.getElem?_cons_zero, List.getElem?_cons_succ] at g0 g1 g2
    go_wp2_with fail
    refine (CHA.out _ (H3U.out _ Hw17.out)).mono ?_
    rintro e w18 ⟨rfl, u18⟩
    have t18 : Below Y3.heap.size Y3 w18 := Hw17.out.trans (u18.mono Hw17.out.size)
    clear g0 g1 g2 u18
    obtain ⟨g0, g1⟩ := (HPN.out _ (H3U.out _ t18)).cells
    go_wp2_with fail
    refine (CHP.out _ (H3U.out _ t18)).mono ?_
    rintro e w19 ⟨rfl, u19⟩
    have t19 : Below Y3.heap.size Y3 w19 := t18.trans (u19.mono t18.size)
    have HEND : Hid (Below w.heap.size w w19) := HWB.out _ (HU1.out _ (HBY3.out.trans (t19.mono HBY3.out.size)))
    clear g0 g1 t18 u19 t19
    go_wp2
    go_ret
    exact ⟨rfl, HEND.out⟩

end Go.Proofs.YtcjpepdagnifiaaDoor
