/- What spec.Gain and impl.Gain make. -/
import Derived.Test.YtjhdnachbahbmaaSCopyWalks
import Derived.Test.YtjhdnachbahbmaaICopyWalks
import Derived.Test.YtjhdnachbahbmaaISlotWalks
import Derived.Test.YtjhdnachbahbmaaSHeapWalks
import Derived.Test.YtjhdnachbahbmaaAnyOps
namespace Go.Proofs.Ytjhdnachbahbmaa
open Go.RowKit
set_option linter.unusedVariables false
set_option maxRecDepth 100000

/-- The count of the object in slot k is more by d, in ints that wrap. -/
def incD (H : HeapD) (k : Nat) (d : Int) : HeapD := match H.objs[k]? with
  | some o => { H with objs := H.objs.set k { o with count := wrap64 (o.count + d) } }
  | none => H
def gainD (H : HeapD) (id : Int) : HeapD := if 0 ≤ slotZ H id then incD H (slotZ H id).toNat 1 else H
theorem incD_at {H : HeapD} {k : Nat} {d : Int} (h : k < H.objs.length) : incD H k d = { H with objs := H.objs.set k { H.objs[k] with count := wrap64 (H.objs[k].count + d) } } := by
  unfold incD; rw [List.getElem?_eq_getElem h]
theorem slotZ_yes (H : HeapD) (id : Int) (h : 0 ≤ slotZ H id) : ∃ k, ∃ hk : k < H.objs.length, slotZ H id = (k : Int) ∧ k < 8 ∧ H.objs[k].live = true ∧ H.objs.length = 8 := by
  unfold slotZ at h ⊢
  split at h
  · omega
  · rename_i h1
    rw [if_neg h1]
    cases ho : H.objs[(id % 8).toNat]? with
    | none => rw [ho] at h; simp at h
    | some o =>
      rw [ho] at h
      simp only at h ⊢
      split at h
      · rename_i h2
        obtain ⟨hk, rfl⟩ := List.getElem?_eq_some_iff.1 ho
        exact ⟨(id % 8).toNat, hk, by rw [if_pos h2]; omega, by omega, h2.1, by omega⟩
      · omega

theorem liveIn_at (s n co : Nat) (w : World) (g : Nat) (aw : Option Addr) (nw cw : Nat) (ab : Option Addr) (nb cb : Nat) (sa : Option Addr) (ns sc : Nat) (hc0 : w.cell? ⟨g, s * 8, none⟩ = some (.bool true)) (hn : n ≤ 1048576) (hs : s < 8) (hlen : s < n) :
    Calls Try.prog 43 #[.agg #[.slice (some ⟨g, 0, none⟩) n co, .slice aw nw cw, .slice ab nb cb, .slice sa ns sc], .int .i64 (s : Int)] w fun e w' => e = .returned (.pointer (some ⟨g, s * 8, none⟩)) ∧ Below w.heap.size w w' := by
  have hg : g < w.heap.size := World.block_lt_of_cell? w _ hc0
  have CC : Hid (∀ X : World, _) := fun X => cellsOf_calls X (some ⟨g, 0, none⟩) n co (.slice aw nw cw) (.slice ab nb cb) (.slice sa ns sc) hn g 0 (fun _ => rfl) ⟨_, _, _, _, _, _, _, _, _, rfl, rfl, rfl⟩
  obtain ⟨W, hW⟩ : ∃ W, W = w.alloc (.cells #[.slice (some ⟨g, 0, none⟩) n co, .slice aw nw cw, .slice ab nb cb, .slice sa ns sc] 33) := ⟨_, rfl⟩
  have BW : Below w.heap.size w W := by rw [hW]; exact (Below.refl _ _).alloc (Nat.le_refl _) _
  have HC : Hid (∀ X, Below W.heap.size W X → X.cell? ⟨g, s * 8, none⟩ = some (.bool true)) := by
    intro X hX
    rw [hX.cell (p := ⟨g, s * 8, none⟩) (Nat.lt_of_lt_of_le hg BW.size), BW.cell (p := ⟨g, s * 8, none⟩) hg, hc0]
  obtain ⟨x, hx, hxs⟩ := cells_idx g 0 n s hs
  rw [hx] at CC
  have hA : cellA g 0 n s = some ⟨g, s * 8, none⟩ := by unfold cellA; rw [if_pos hlen, Nat.zero_add]
  rw [hA] at hxs
  clear hx hc0 hg
  have hi : (s : Int) < 8 := by omega
  go_enter Try.func43, Try.ntmps43
  go_wp2_with fail
  rw [← hW]
  clear hW
  refine (CC.out _).mono ?_
  rintro e w1 ⟨rfl, b1⟩
  have c0 := HC.out _ b1
  have B1 := BW.trans (b1.mono BW.size)
  clear b1 HC CC
  go_wp2
  go_ret
  exact ⟨rfl, B1⟩

set_option maxHeartbeats 4000000 in
theorem iGain_calls (v : Value) (H : HeapD) (id : Int) (w : World) (h : RdH w v H) (hs : SmallH H) (hid : in64 id) :
    Calls Try.prog 45 #[v, .int .i64 id] w fun e w' => ∃ s : HSh, e = .returned s.v ∧ HM w' w.heap.size s (gainD H id) ∧ Below w.heap.size w w' := by
  have HR : Hid (∀ X, Below w.heap.size w X → RdH X v H) := fun X hX => rdH_later h hX
  obtain ⟨ao, co, aw, cw, ab, cb, sa, sc, rfl, -⟩ := h
  obtain ⟨W, hW⟩ : ∃ W, W = (w.alloc (.cells #[.slice ao H.objs.length co, .slice aw H.weaks.length cw, .slice ab H.buffer.length cb, .slice sa H.sites.length sc] 33)).alloc (.cells #[.slice none 0 0, .slice none 0 0, .slice none 0 0, .slice none 0 0] 33) := ⟨_, rfl⟩
  have BW : Below w.heap.size w W := by rw [hW]; exact ((Below.refl _ _).alloc (Nat.le_refl _) _).alloc (by simp) _
  have hWs : W.heap.size = w.heap.size + 2 := by rw [hW]; simp
  have FR : Four W (w.heap.size + 1) (.slice none 0 0) (.slice none 0 0) (.slice none 0 0) (.slice none 0 0) := by
    rw [hW]
    have f1 := Four.new (w.alloc (.cells #[.slice ao H.objs.length co, .slice aw H.weaks.length cw, .slice ab H.buffer.length cb, .slice sa H.sites.length sc] 33)) (.slice none 0 0) (.slice none 0 0) (.slice none 0 0) (.slice none 0 0)
    simpa using f1
  have HFR : Hid (Four W (w.heap.size + 1) (.slice none 0 0) (.slice none 0 0) (.slice none 0 0) (.slice none 0 0)) := FR
  have CC : Hid (∀ _ : Unit, _) := fun (_ : Unit) => iCopy_calls _ H W (HR.out W BW) hs
  have HBW : Hid (Below w.heap.size w W) := BW
  have l0 := hs.objs
  clear FR BW HR hs
  go_enter Try.func45, Try.ntmps45
  go_wp2_with fail
  rw [← hW]
  clear hW
  refine (CC.out ()).mono ?_
  rintro e w1 ⟨⟨oa, oc2, os, wa, wn, wc, ba, bn, bc, sa2, sn, sc2⟩, rfl, M1, b1⟩
  have HM1 : Hid (HM w1 W.heap.size ⟨oa, oc2, os, wa, wn, wc, ba, bn, bc, sa2, sn, sc2⟩ H) := M1
  have HB1 : Hid (Below W.heap.size W w1) := b1
  have HSO : Hid (os.length = H.objs.length) := M1.lo
  have hs1 := b1.size
  clear CC M1 b1
  obtain ⟨V, hV⟩ : ∃ V, V = w1.alloc (.cells #[.slice oa os.length oc2, .slice wa wn wc, .slice ba bn bc, .slice sa2 sn sc2] 33) := ⟨_, rfl⟩
  have BV : Below w1.heap.size w1 V := by rw [hV]; exact (Below.refl _ _).alloc (Nat.le_refl _) _
  have hVs : V.heap.size = w1.heap.size + 1 := by rw [hV]; simp
  have HXV : Hid (Four V w1.heap.size (.slice oa os.length oc2) (.slice wa wn wc) (.slice ba bn bc) (.slice sa2 sn sc2)) := by rw [hV]; exact Four.new w1 _ _ _ _
  have HMV : Hid (HM V W.heap.size ⟨oa, oc2, os, wa, wn, wc, ba, bn, bc, sa2, sn, sc2⟩ H) := hm_later HM1.out BV
  have HBV : Hid (Below W.heap.size W V) := HB1.out.trans (BV.mono HB1.out.size)
  have HFV : Hid (Four V (w.heap.size + 1) (.slice none 0 0) (.slice none 0 0) (.slice none 0 0) (.slice none 0 0)) := (HBV.out.block (w.heap.size + 1) (by omega)).trans HFR.out
  have CS : Hid (∀ X : LaterW V, _) := fun X => iSlotOf_calls (HSh.v ⟨oa, oc2, os, wa, wn, wc, ba, bn, bc, sa2, sn, sc2⟩) H id X.on (hm_rd (hm_later HMV.out X.bel)) l0 hid.1 hid.2
  have CN : Hid (∀ X : LaterW V, ∀ z, NoLive H z → _) := fun X z hz => liveIn_no (HSh.v ⟨oa, oc2, os, wa, wn, wc, ba, bn, bc, sa2, sn, sc2⟩) H z X.on (hm_rd (hm_later HMV.out X.bel)) l0 hz
  have hv : HSh.v ⟨oa, oc2, os, wa, wn, wc, ba, bn, bc, sa2, sn, sc2⟩ = .agg #[.slice oa os.length oc2, .slice wa wn wc, .slice ba bn bc, .slice sa2 sn sc2] := rfl
  rw [hv] at CS CN ⊢
  clear hv
  have hne := LaterW.some_ V
  have y0 : ∀ X : LaterW V, X.on.cell? ⟨w1.heap.size, 0, none⟩ = some (.slice oa os.length oc2) := fun X => (HXV.out.later X.bel).cell 0
  have y1 : ∀ X : LaterW V, X.on.cell? ⟨w1.heap.size, 1, none⟩ = some (.slice wa wn wc) := fun X => (HXV.out.later X.bel).cell 1
  have y2 : ∀ X : LaterW V, X.on.cell? ⟨w1.heap.size, 2, none⟩ = some (.slice ba bn bc) := fun X => (HXV.out.later X.bel).cell 2
  have y3 : ∀ X : LaterW V, X.on.cell? ⟨w1.heap.size, 3, none⟩ = some (.slice sa2 sn sc2) := fun X => (HXV.out.later X.bel).cell 3
  have HEND : Hid (∀ X, Below V.heap.size V X → Below w.heap.size w X) := fun X hX => HBW.out.trans ((HBV.out.trans (hX.mono HBV.out.size)).mono HBW.out.size)
  clear HB1 BV HFR HBV HBW
  by_cases hk : 0 ≤ slotZ H id
  · obtain ⟨k, hkl, ek, hk8, hlv, -⟩ := slotZ_yes H id hk
    have HG : Hid (gainD H id = incD H k 1) := by show _ = _; unfold gainD; rw [if_pos hk, ek]; rfl
    obtain ⟨go, hgo, hgB, hgl⟩ := hm_own HMV.out k hkl
    simp only at hgo
    subst hgo
    obtain ⟨hk2, hob, hfz⟩ := hm_obj HMV.out k hkl go rfl
    have hgq : go ≠ w1.heap.size := fun e => by have := (HM1.out.og _ rfl).2; simp only at this; omega
    rw [ek] at CS
    have HOB : Hid (∀ X, Below V.heap.size V X → X.cell? ⟨go, k * 8 + 5, none⟩ = some (.int .i64 H.objs[k].count) ∧ X.frozen? ⟨go, k * 8 + 5, none⟩ = false) := fun X hX => ⟨(hX.cell (p := ⟨go, k * 8 + 5, none⟩) hgl).trans hob.c5, (hX.frozen (p := ⟨go, k * 8 + 5, none⟩) hgl).trans (hfz 5 (by omega))⟩
    have CL : Hid (∀ X : LaterW V, _) := fun X => liveIn_at k os.length oc2 X.on go wa wn wc ba bn bc sa2 sn sc2 ((X.bel.cell (p := ⟨go, k * 8, none⟩) hgl).trans (hob.c0.trans (by rw [hlv]))) (by rw [HSO.out]; exact l0) hk8 hk2
    have HN : Hid (∀ X, Below V.heap.size V X → HM (X.setCell ⟨go, k * 8 + 5, none⟩ (.int .i64 (wrap64 (H.objs[k].count + 1)))) W.heap.size ⟨some ⟨go, 0, none⟩, oc2, os, wa, wn, wc, ba, bn, bc, sa2, sn, sc2⟩ (gainD H id)) := fun X hX => by
      rw [HG.out, incD_at hkl]
      exact hm_count (hm_later HMV.out hX) k hkl go rfl _
    generalize H.objs[k].count = c at HOB HN
    obtain ⟨M, hM⟩ : ∃ M, wrap64 (c + 1) = M := ⟨_, rfl⟩
    rw [hM] at HN
    clear hob hfz hlv HG hk ek CN HMV
    go_wp2
    rw [← hV]
    clear hV
    refine wp_region_later V (Below.refl _ _) (by kernel_rfl) (by kernel_rfl) ?_
    repeat (go_big_quiet_step (first
      | (go_at_call 44; refine (CS.out _).mono ?_; rintro e w2 ⟨rfl, b2⟩; exact ⟨rfl, LaterW.step _ b2⟩)
      | (go_at_call 43; refine (CL.out _).mono ?_; rintro e w2 ⟨rfl, b2⟩; exact ⟨rfl, LaterW.step _ b2⟩)))
    refine wpQuiet_nil ?_
    intro X hXe
    have hX : Below V.heap.size V X := by obtain ⟨n, hn⟩ := hXe; rw [hn]; exact n.bel
    clear hXe y0 y1 y2 y3 hne
    obtain ⟨k5, z5⟩ := HOB.out X hX
    have XX := HXV.out.later hX
    have RX := HFV.out.later hX
    have q0 := XX.cell 0
    have q1 := XX.cell 1
    have q2 := XX.cell 2
    have q3 := XX.cell 3
    have r0 := RX.cell 0
    have r1 := RX.cell 1
    have r2 := RX.cell 2
    have r3 := RX.cell 3
    have z0 := RX.frozen 0
    have z1 := RX.frozen 1
    have z2 := RX.frozen 2
    have z3 := RX.frozen 3
    simp only [List.getElem?_toArray, List.getElem?_cons_zero, List.getElem?_cons_succ] at q0 q1 q2 q3 r0 r1 r2 r3
    have hg1 : ¬ go = w.heap.size + 1 := by omega
    have hg2 : ¬ w.heap.size + 1 = go := by omega
    have hg3 : ¬ go = w1.heap.size := hgq
    have hg4 : ¬ w1.heap.size = go := fun e => hgq e.symm
    have HNX : Hid _ := HN.out X hX
    have HEX : Hid (Below w.heap.size w X) := HEND.out X hX
    clear XX RX HN HOB HEND
    go_wp2
    refine bodyPost_ret (v := .agg #[.slice (some ⟨go, 0, none⟩) os.length oc2, .slice wa wn wc, .slice ba bn bc, .slice sa2 sn sc2]) (by simp [results, Try.results45, go_sem, *]) rfl ⟨⟨some ⟨go, 0, none⟩, oc2, os, wa, wn, wc, ba, bn, bc, sa2, sn, sc2⟩, rfl, ?_, ?_⟩
    · refine hm_mono (hm_keepB HNX.out ?_) (by omega)
      refine (((keepB_set _ _ ⟨w.heap.size + 1, 0, none⟩ _ (by simp only; omega)).trans (keepB_set _ _ ⟨w.heap.size + 1, 1, none⟩ _ (by simp only; omega))).trans (keepB_set _ _ ⟨w.heap.size + 1, 2, none⟩ _ (by simp only; omega))).trans (keepB_set _ _ ⟨w.heap.size + 1, 3, none⟩ _ (by simp only; omega))
    · iterate 4 refine Below.setCell ?_ (by simp only; omega) _
      exact HEX.out.setCell (by simp only; omega) _
  · have HG : Hid (gainD H id = H) := by show _ = _; unfold gainD; rw [if_neg hk]
    have CL : Hid (∀ X : LaterW V, _) := fun X => CN.out X (slotZ H id) (.inl (by omega))
    generalize slotZ H id = z at CS CL
    clear CN
    go_wp2
    rw [← hV]
    clear hV
    refine wp_region_later V (Below.refl _ _) (by kernel_rfl) (by kernel_rfl) ?_
    repeat (go_big_quiet_step (first
      | (go_at_call 44; refine (CS.out _).mono ?_; rintro e w2 ⟨rfl, b2⟩; exact ⟨rfl, LaterW.step _ b2⟩)
      | (go_at_call 43; refine (CL.out _).mono ?_; rintro e w2 ⟨rfl, b2⟩; exact ⟨rfl, LaterW.step _ b2⟩)))
    refine wpQuiet_nil ?_
    intro X hXe
    have hX : Below V.heap.size V X := by obtain ⟨n, hn⟩ := hXe; rw [hn]; exact n.bel
    clear hXe y0 y1 y2 y3 hne
    have XX := HXV.out.later hX
    have RX := HFV.out.later hX
    have q0 := XX.cell 0
    have q1 := XX.cell 1
    have q2 := XX.cell 2
    have q3 := XX.cell 3
    have r0 := RX.cell 0
    have r1 := RX.cell 1
    have r2 := RX.cell 2
    have r3 := RX.cell 3
    have z0 := RX.frozen 0
    have z1 := RX.frozen 1
    have z2 := RX.frozen 2
    have z3 := RX.frozen 3
    simp only [List.getElem?_toArray, List.getElem?_cons_zero, List.getElem?_cons_succ] at q0 q1 q2 q3 r0 r1 r2 r3
    have HNX : Hid _ := hm_later HMV.out hX
    have HEX : Hid (Below w.heap.size w X) := HEND.out X hX
    clear XX RX HEND HMV
    go_wp2
    refine bodyPost_ret (v := .agg #[.slice oa os.length oc2, .slice wa wn wc, .slice ba bn bc, .slice sa2 sn sc2]) (by simp [results, Try.results45, go_sem, *]) rfl ⟨⟨oa, oc2, os, wa, wn, wc, ba, bn, bc, sa2, sn, sc2⟩, rfl, ?_, ?_⟩
    · rw [HG.out]
      refine hm_mono (hm_keepB HNX.out ?_) (by omega)
      refine (((keepB_set _ _ ⟨w.heap.size + 1, 0, none⟩ _ (by simp only; omega)).trans (keepB_set _ _ ⟨w.heap.size + 1, 1, none⟩ _ (by simp only; omega))).trans (keepB_set _ _ ⟨w.heap.size + 1, 2, none⟩ _ (by simp only; omega))).trans (keepB_set _ _ ⟨w.heap.size + 1, 3, none⟩ _ (by simp only; omega))
    · iterate 4 refine Below.setCell ?_ (by simp only; omega) _
      exact HEX.out

end Go.Proofs.Ytjhdnachbahbmaa
