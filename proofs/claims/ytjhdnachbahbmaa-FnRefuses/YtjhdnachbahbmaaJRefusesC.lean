/- What impl's loses, collect and keep make of a right heap. -/
import Derived.Test.YtjhdnachbahbmaaJRefusesB
import Derived.Test.YtjhdnachbahbmaaHeapMark
import Derived.Test.YtjhdnachbahbmaaEmptyWalks
import Derived.Test.YtjhdnachbahbmaaFreeWalks
import Derived.Test.YtjhdnachbahbmaaRefLaw
import Derived.Test.YtjhdnachbahbmaaAnsRow
import Derived.Deep.Cut
namespace Go.Proofs.Ytjhdnachbahbmaa
open Go.RowKit
set_option linter.unusedVariables false
set_option maxRecDepth 100000

theorem ls_end_alloc {W wr : World} {B gx : Nat} {s : HSh} {H : HeapD} {vf : Value} {fr : List Int} (n : Nat) (c v : Int) (hL : LS W wr B gx s H (.slice none 0 0) vf [] fr) (hn : B ≤ n) (h1 : ¬ HasB s n) (h2 : n ≠ gx) (h4 : vf.ownBlock ≠ some n) (y0 y1 y2 : Value) (o : Obj) : ImplPost W B gx (H, ⟨c, v, fr⟩) (.returned (ansV c v vf)) ((setThree wr n y0 y1 y2).alloc o) :=
  ⟨s, vf, rfl, ls_later (ls_far3 hL n y0 y1 y2 hn h1 h2 (by simp [Value.ownBlock]) h4) ((Below.refl _ _).alloc (Nat.le_refl _) _)⟩

/-- What loses leaves. -/
def LosesPost (W wr : World) (B gx : Nat) (R : HeapD × List Int) (e : Ending) (w' : World) : Prop := ∃ (s : HSh) (fa : Option Addr) (fc : Nat), e = .returned (ansV 0 0 (.slice fa R.2.length fc)) ∧ LS W w' B gx s R.1 (.slice none 0 0) (.slice fa R.2.length fc) [] R.2 ∧ (∀ g, HasB s g → wr.heap.size ≤ g) ∧ (∀ g, (Value.slice fa R.2.length fc).ownBlock = some g → wr.heap.size ≤ g) ∧ (∀ i, i < wr.heap.size → i ≠ gx → w'.heap[i]? = wr.heap[i]?) ∧ wr.heap.size ≤ w'.heap.size

set_option maxHeartbeats 4000000 in
theorem loses_calls (W wr : World) (B gx : Nat) (s : HSh) (H : HeapD) (id : Int) (hL : LS W wr B gx s H (.slice none 0 0) (.slice none 0 0) [] []) (hs : SmallH H) (hw : ∀ z ∈ H.objs, ∀ x ∈ z.field, in64 x) (hid : in64 id) :
    Calls Try.prog 46 #[.pointer (some ⟨gx, 0, none⟩), .int .i64 id] wr fun e w' => LosesPost W wr B gx (loseR H [id]) e w' := by
  obtain ⟨V, hV⟩ : ∃ V, V = (wr.alloc (.cells #[.int .i64 0, .int .i64 0, .slice none 0 0] 38)).alloc (.cells #[.int .i64 id] 3) := ⟨_, rfl⟩
  have BV : Below wr.heap.size wr V := by rw [hV]; exact ((Below.refl _ _).alloc (Nat.le_refl _) _).alloc (by simp) _
  have sV : V.heap.size = wr.heap.size + 2 := by rw [hV]; simp
  have LV : LS W V B gx s H (.slice none 0 0) (.slice none 0 0) [] [] := ls_later hL BV
  have T0 : Three V wr.heap.size (.int .i64 0) (.int .i64 0) (.slice none 0 0) := by
    rw [hV]
    exact (Three.new wr _ _ _).later ((Below.refl _ _).alloc (Nat.le_refl _) _)
  have hri : RdI V (some ⟨wr.heap.size + 1, 0, none⟩) [id] := by
    intro j hj
    obtain rfl : j = 0 := by simpa using hj
    refine ⟨wr.heap.size + 1, 0, rfl, by omega, ?_⟩
    rw [hV, show wr.heap.size + 1 = (wr.alloc (.cells #[.int .i64 0, .int .i64 0, .slice none 0 0] 38)).heap.size from by simp, World.cell?_alloc_mark]
    rfl
  have CL : Hid (∀ _ : Unit, _) := fun (_ : Unit) => iLose_calls s.v H (some ⟨wr.heap.size + 1, 0, none⟩) 1 [id] V (hm_rd LV.m) hs hw hri (by simp) (fun x hx => by simp at hx; subst hx; exact hid)
  rw [show ([id] : List Int).length = 1 from rfl, hsv] at CL
  have hgx := hL.x.lt
  have hle := hL.le
  have nh : ¬ HasB s wr.heap.size := hm_no hL.m (.inr (Nat.le_refl _))
  have HLV : Hid (LS W V B gx s H (.slice none 0 0) (.slice none 0 0) [] []) := LV
  have HT : Hid (Three V wr.heap.size (.int .i64 0) (.int .i64 0) (.slice none 0 0)) := T0
  have c0 : wr.cell? ⟨gx, 0, none⟩ = some (.slice s.oa s.os.length s.oc) := hL.x.cell 0
  have c1 : wr.cell? ⟨gx, 1, none⟩ = some (.slice s.wa s.wn s.wc) := hL.x.cell 1
  have c2 : wr.cell? ⟨gx, 2, none⟩ = some (.slice s.ba s.bn s.bc) := hL.x.cell 2
  have c3 : wr.cell? ⟨gx, 3, none⟩ = some (.slice s.sa s.sn s.sc) := hL.x.cell 3
  have hn0 : ¬ gx = wr.heap.size := by omega
  obtain ⟨R, hR⟩ : ∃ R, loseR H [id] = R := ⟨_, rfl⟩
  rw [hR] at CL ⊢
  have HBV : Hid (Below wr.heap.size wr V) := BV
  clear hL LV T0 hri hs hw hid hR BV
  go_enter Try.func46, Try.ntmps46
  go_wp2_with fail
  rw [← hV]
  clear hV c0 c1 c2 c3 hn0
  refine (CL.out ()).mono ?_
  rintro e w2 ⟨s1, vf, rfl, M1, f1, d1, b2⟩
  obtain ⟨fa, fc, rfl, -⟩ := rdI_own f1
  have hs2 := b2.size
  have HLS : Hid (LS W (setFour w2 gx (.slice s1.oa s1.os.length s1.oc) (.slice s1.wa s1.wn s1.wc) (.slice s1.ba s1.bn s1.bc) (.slice s1.sa s1.sn s1.sc)) B gx s1 R.1 (.slice none 0 0) (.slice fa R.2.length fc) [] R.2) := ls_swap HLV.out b2 M1 f1 d1
  have hsn : ¬ HasB s1 wr.heap.size := hm_no M1 (.inl (by omega))
  have hfn : (Value.slice fa R.2.length fc).ownBlock ≠ some wr.heap.size := fun e => by have := (ownI_lt f1 _ e).1; omega
  have HX : Hid (LS W ((setThree (setFour w2 gx (.slice s1.oa s1.os.length s1.oc) (.slice s1.wa s1.wn s1.wc) (.slice s1.ba s1.bn s1.bc) (.slice s1.sa s1.sn s1.sc)) wr.heap.size (.int .i64 0) (.int .i64 0) (.slice fa R.2.length fc)).alloc (.cells #[.slice s1.oa s1.os.length s1.oc, .slice s1.wa s1.wn s1.wc, .slice s1.ba s1.bn s1.bc, .slice s1.sa s1.sn s1.sc] 33)) B gx s1 R.1 (.slice none 0 0) (.slice fa R.2.length fc) [] R.2) := ls_later (ls_far3 HLS.out wr.heap.size _ _ _ hle hsn (by omega) (by simp [Value.ownBlock]) hfn) ((Below.refl _ _).alloc (Nat.le_refl _) _)
  have HS1 : Hid (∀ g, HasB s1 g → wr.heap.size ≤ g) := fun g hg => by have := (hm_bl M1 hg).1; omega
  have HF1 : Hid (∀ g, (Value.slice fa R.2.length fc).ownBlock = some g → wr.heap.size ≤ g) := fun g hg => by have := (ownI_lt f1 g hg).1; omega
  have HSZ : Hid (wr.heap.size ≤ ((setThree (setFour w2 gx (.slice s1.oa s1.os.length s1.oc) (.slice s1.wa s1.wn s1.wc) (.slice s1.ba s1.bn s1.bc) (.slice s1.sa s1.sn s1.sc)) wr.heap.size (.int .i64 0) (.int .i64 0) (.slice fa R.2.length fc)).alloc (.cells #[.slice s1.oa s1.os.length s1.oc, .slice s1.wa s1.wn s1.wc, .slice s1.ba s1.bn s1.bc, .slice s1.sa s1.sn s1.sc] 33)).heap.size) := by
    have e1 : (setThree (setFour w2 gx (.slice s1.oa s1.os.length s1.oc) (.slice s1.wa s1.wn s1.wc) (.slice s1.ba s1.bn s1.bc) (.slice s1.sa s1.sn s1.sc)) wr.heap.size (.int .i64 0) (.int .i64 0) (.slice fa R.2.length fc)).heap.size = w2.heap.size := by rw [setThree_size, setFour_size]
    show _ ≤ _
    simp only [World.alloc, Array.size_push]
    omega
  have HFRM : Hid (∀ i, i < wr.heap.size → i ≠ gx → ((setThree (setFour w2 gx (.slice s1.oa s1.os.length s1.oc) (.slice s1.wa s1.wn s1.wc) (.slice s1.ba s1.bn s1.bc) (.slice s1.sa s1.sn s1.sc)) wr.heap.size (.int .i64 0) (.int .i64 0) (.slice fa R.2.length fc)).alloc (.cells #[.slice s1.oa s1.os.length s1.oc, .slice s1.wa s1.wn s1.wc, .slice s1.ba s1.bn s1.bc, .slice s1.sa s1.sn s1.sc] 33)).heap[i]? = wr.heap[i]?) := fun i hi hne => by
    have e1 : (setThree (setFour w2 gx (.slice s1.oa s1.os.length s1.oc) (.slice s1.wa s1.wn s1.wc) (.slice s1.ba s1.bn s1.bc) (.slice s1.sa s1.sn s1.sc)) wr.heap.size (.int .i64 0) (.int .i64 0) (.slice fa R.2.length fc)).heap.size = w2.heap.size := by rw [setThree_size, setFour_size]
    rw [((Below.refl (setThree (setFour w2 gx (.slice s1.oa s1.os.length s1.oc) (.slice s1.wa s1.wn s1.wc) (.slice s1.ba s1.bn s1.bc) (.slice s1.sa s1.sn s1.sc)) wr.heap.size (.int .i64 0) (.int .i64 0) (.slice fa R.2.length fc)).heap.size _).alloc (Nat.le_refl _) _).block i (by rw [e1]; omega)]
    rw [setThree_other _ _ _ _ _ i (by omega), setFour_other _ _ _ _ _ _ i hne, b2.block i (by omega), HBV.out.block i hi]
  have T2 := HT.out.later b2
  obtain ⟨q0, q1, q2⟩ := T2.cells
  obtain ⟨z0, z1, z2⟩ := T2.frees
  have F2 := HLV.out.x.later b2
  obtain ⟨x0, x1, x2, x3⟩ := F2.cells
  obtain ⟨y0, y1, y2, y3⟩ := F2.frees
  have m1 : gx < w2.heap.size := by omega
  have m2 : ¬ gx = w2.heap.size := by omega
  have m3 : wr.heap.size < w2.heap.size := by omega
  have m4 : ¬ wr.heap.size = w2.heap.size := by omega
  have m5 : ¬ gx = wr.heap.size := by omega
  have m6 : ¬ wr.heap.size = gx := by omega
  rw [hsv]
  clear HLS HLV HT CL M1 f1 d1 b2 T2 F2 hsn hfn hs2 nh
  unfold setThree setFour at HX HFRM HSZ
  go_wp2
  exact bodyPost_ret (v := ansV 0 0 (.slice fa R.2.length fc)) (by simp [results, Try.results46, go_sem, ansV, *]) rfl ⟨s1, fa, fc, rfl, HX.out, HS1.out, HF1.out, HFRM.out, HSZ.out⟩

set_option maxHeartbeats 4000000 in
theorem opCollect_calls (W wr : World) (B gx : Nat) (s : HSh) (H : HeapD) (o : OpD) (hL : LS W wr B gx s H (.slice none 0 0) (.slice none 0 0) [] []) (hs : SmallH H) (h8 : H.objs.length = 8) (hw : ∀ z ∈ H.objs, ∀ x ∈ z.field, in64 x) (hb : ∀ z ∈ H.buffer, in64 z) :
    Calls Try.prog 30 #[opV o, .pointer (some ⟨gx, 0, none⟩)] wr fun e w' => ImplPost W B gx ((collH H, ⟨0, 0, collF H⟩)) e w' := by
  obtain ⟨V, hV, BV, sV, F5, F3⟩ := entry2 wr o
  have LV : LS W V B gx s H (.slice none 0 0) (.slice none 0 0) [] [] := ls_later hL BV
  have hgx := hL.x.lt
  have hle := hL.le
  have nh : ¬ HasB s (wr.heap.size + 1) := hm_no hL.m (.inr (by omega))
  have hne : wr.heap.size + 1 ≠ gx := by omega
  have HE : Hid (∀ X H2 c v y0 y1 y2, LS W X B gx s H2 (.slice none 0 0) (.slice none 0 0) [] [] → ImplPost W B gx (H2, ⟨c, v, []⟩) (.returned (ansV c v (.slice none 0 0))) (setThree X (wr.heap.size + 1) y0 y1 y2)) := fun X H2 c v y0 y1 y2 hX => ls_end (w := wr) (wr.heap.size + 1) c v hX (by omega) nh hne (by simp [Value.ownBlock]) y0 y1 y2
  have HT : Hid (Three V (wr.heap.size + 1) (.int .i64 0) (.int .i64 0) (.slice none 0 0)) := F3
  have HL : Hid (LS W V B gx s H (.slice none 0 0) (.slice none 0 0) [] []) := LV
  have CR : Hid (∀ c X, _) := fun c X => refused_calls c X
  unfold opV
  obtain ⟨k0, k1, k2, k3, k4⟩ := F5.cells
  have CL : Hid (∀ _ : Unit, _) := fun (_ : Unit) => iCollect_yes s.v H V (hm_rd LV.m) hs h8 (hm_cap LV.m) hw hb
  rw [hsv] at CL
  obtain ⟨R1, hR1⟩ : ∃ R, collH H = R := ⟨_, rfl⟩
  obtain ⟨R2, hR2⟩ : ∃ R, collF H = R := ⟨_, rfl⟩
  rw [hR1, hR2] at CL ⊢
  obtain ⟨c0, c1, c2, c3⟩ := hL.x.cells
  have hn0 : ¬ gx = wr.heap.size := by omega
  have hn1 : ¬ gx = wr.heap.size + 1 := by omega
  clear hL LV hs hw hb hR1 hR2 BV k0 k1 k2 k3 k4 F5 F3 CR nh HE
  go_enter Try.func30, Try.ntmps30
  go_wp2_with fail
  rw [← hV]
  clear hV c0 c1 c2 c3 hn0 hn1
  refine (CL.out ()).mono ?_
  rintro e w2 ⟨s1, vf, rfl, M1, f1, d1, b2⟩
  obtain ⟨fa, fc, rfl, -⟩ := rdI_own f1
  have hs2 := b2.size
  have HLS : Hid (LS W (setFour w2 gx (.slice s1.oa s1.os.length s1.oc) (.slice s1.wa s1.wn s1.wc) (.slice s1.ba s1.bn s1.bc) (.slice s1.sa s1.sn s1.sc)) B gx s1 R1 (.slice none 0 0) (.slice fa R2.length fc) [] R2) := ls_swap HL.out b2 M1 f1 d1
  have hsn : ¬ HasB s1 (wr.heap.size + 1) := hm_no M1 (.inl (by omega))
  have hfn : (Value.slice fa R2.length fc).ownBlock ≠ some (wr.heap.size + 1) := fun e => by have := (ownI_lt f1 _ e).1; omega
  have HX : Hid (ImplPost W B gx (R1, ⟨0, 0, R2⟩) (.returned (ansV 0 0 (.slice fa R2.length fc))) ((setThree (setFour w2 gx (.slice s1.oa s1.os.length s1.oc) (.slice s1.wa s1.wn s1.wc) (.slice s1.ba s1.bn s1.bc) (.slice s1.sa s1.sn s1.sc)) (wr.heap.size + 1) (.int .i64 0) (.int .i64 0) (.slice fa R2.length fc)).alloc (.cells #[.slice s1.oa s1.os.length s1.oc, .slice s1.wa s1.wn s1.wc, .slice s1.ba s1.bn s1.bc, .slice s1.sa s1.sn s1.sc] 33))) := ls_end_alloc (wr.heap.size + 1) 0 0 HLS.out (by omega) hsn hne hfn _ _ _ _
  have T2 := HT.out.later b2
  obtain ⟨q0, q1, q2⟩ := T2.cells
  obtain ⟨z0, z1, z2⟩ := T2.frees
  have F2 := HL.out.x.later b2
  obtain ⟨x0, x1, x2, x3⟩ := F2.cells
  obtain ⟨y0, y1, y2, y3⟩ := F2.frees
  have m1 : gx < w2.heap.size := by omega
  have m2 : ¬ gx = w2.heap.size := by omega
  have m3 : wr.heap.size + 1 < w2.heap.size := by omega
  have m4 : ¬ wr.heap.size + 1 = w2.heap.size := by omega
  have m5 : ¬ gx = wr.heap.size + 1 := by omega
  have m6 : ¬ wr.heap.size + 1 = gx := by omega
  rw [hsv]
  clear HLS HL HT CL M1 f1 d1 b2 T2 F2 hsn hfn hs2
  generalize R2.length = fn at *
  unfold setThree setFour at HX
  go_wp2
  exact bodyPost_ret (v := ansV 0 0 (.slice fa fn fc)) (by simp [results, Try.results30, go_sem, ansV, *]) rfl HX.out

set_option maxHeartbeats 4000000 in
theorem opKeep_no (W wr : World) (B gx : Nat) (s : HSh) (H : HeapD) (o : OpD) (hL : LS W wr B gx s H (.slice none 0 0) (.slice none 0 0) [] []) (hs : SmallH H) (hoa : in64 o.a) (hz : slotZ H o.a < 0) :
    Calls Try.prog 25 #[opV o, .pointer (some ⟨gx, 0, none⟩)] wr fun e w' => ImplPost W B gx (holdR H o.kind o.a) e w' := by
  obtain ⟨V, hV, BV, sV, F5, F3⟩ := entry2 wr o
  have LV : LS W V B gx s H (.slice none 0 0) (.slice none 0 0) [] [] := ls_later hL BV
  have hgx := hL.x.lt
  have hle := hL.le
  have nh : ¬ HasB s (wr.heap.size + 1) := hm_no hL.m (.inr (by omega))
  have hne : wr.heap.size + 1 ≠ gx := by omega
  have HE : Hid (∀ X H2 c v y0 y1 y2, LS W X B gx s H2 (.slice none 0 0) (.slice none 0 0) [] [] → ImplPost W B gx (H2, ⟨c, v, []⟩) (.returned (ansV c v (.slice none 0 0))) (setThree X (wr.heap.size + 1) y0 y1 y2)) := fun X H2 c v y0 y1 y2 hX => ls_end (w := wr) (wr.heap.size + 1) c v hX (by omega) nh hne (by simp [Value.ownBlock]) y0 y1 y2
  have HT : Hid (Three V (wr.heap.size + 1) (.int .i64 0) (.int .i64 0) (.slice none 0 0)) := F3
  have HL : Hid (LS W V B gx s H (.slice none 0 0) (.slice none 0 0) [] []) := LV
  have CR : Hid (∀ c X, _) := fun c X => refused_calls c X
  unfold opV
  obtain ⟨k0, k1, k2, k3, k4⟩ := F5.cells
  have CS : Hid (∀ X : LaterW V, _) := fun X => iSlotOf_calls s.v H o.a X.on (hm_rd (hm_later LV.m X.bel)) hs.objs hoa.1 hoa.2
  have CN : Hid (∀ X : LaterW V, ∀ z, NoLive H z → _) := fun X z hz => liveIn_no s.v H z X.on (hm_rd (hm_later LV.m X.bel)) hs.objs hz
  have y0 : ∀ X : LaterW V, X.on.cell? ⟨gx, 0, none⟩ = some (.slice s.oa s.os.length s.oc) := fun X => (LV.x.later X.bel).cell 0
  have y1 : ∀ X : LaterW V, X.on.cell? ⟨gx, 1, none⟩ = some (.slice s.wa s.wn s.wc) := fun X => (LV.x.later X.bel).cell 1
  have y2 : ∀ X : LaterW V, X.on.cell? ⟨gx, 2, none⟩ = some (.slice s.ba s.bn s.bc) := fun X => (LV.x.later X.bel).cell 2
  have y3 : ∀ X : LaterW V, X.on.cell? ⟨gx, 3, none⟩ = some (.slice s.sa s.sn s.sc) := fun X => (LV.x.later X.bel).cell 3
  have l0 : ∀ X : LaterW V, X.on.cell? ⟨wr.heap.size, 0, none⟩ = some (.int .i64 o.kind) := fun X => (F5.later X.bel).cell 0
  have l1 : ∀ X : LaterW V, X.on.cell? ⟨wr.heap.size, 1, none⟩ = some (.int .i64 o.a) := fun X => (F5.later X.bel).cell 1
  have l2 : ∀ X : LaterW V, X.on.cell? ⟨wr.heap.size, 2, none⟩ = some (.int .i64 o.b) := fun X => (F5.later X.bel).cell 2
  have l3 : ∀ X : LaterW V, X.on.cell? ⟨wr.heap.size, 3, none⟩ = some (.int .i64 o.c) := fun X => (F5.later X.bel).cell 3
  have hnel := LaterW.some_ V
  have H5 : Hid (Five V wr.heap.size o) := F5
  rw [hsv] at CS CN
  have HR : Hid (holdR H o.kind o.a = (H, ⟨1, 0, []⟩)) := by show _ = _; unfold holdR; rw [if_pos hz]; rfl
  have CL : Hid (∀ X : LaterW V, _) := fun X => CN.out X (slotZ H o.a) (.inl hz)
  rw [HR.out]
  generalize slotZ H o.a = z at *
  clear hs hL LV F5 F3 BV HR nh hoa k0 k1 k2 k3 k4 CN
  go_enter Try.func25, Try.ntmps25
  go_wp2
  rw [← hV]
  clear hV
  refine wp_region_later V (Below.refl _ _) (by kernel_rfl) (by kernel_rfl) ?_
  repeat (go_big_quiet_step (first
    | (go_at_call 44; refine (CS.out _).mono ?_; rintro e w2 ⟨rfl, b2⟩; exact ⟨rfl, LaterW.step _ b2⟩)
    | (go_at_call 43; refine (CL.out _).mono ?_; rintro e w2 ⟨rfl, b2⟩; exact ⟨rfl, LaterW.step _ b2⟩)))
  refine wpQuiet_nil ?_
  intro X hXe
  have hX : Below V.heap.size V X := by obtain ⟨n, hn⟩ := hXe; rw [hn]; exact n.bel
  clear hXe y0 y1 y2 y3 l0 l1 l2 l3 hnel CS CL
  have HTX : Hid (Three X (wr.heap.size + 1) (.int .i64 0) (.int .i64 0) (.slice none 0 0)) := HT.out.later hX
  go_wp2_with fail
  refine (CR.out 1 _).mono ?_
  rintro e w2 ⟨rfl, b2⟩
  have T2 := HTX.out.later b2
  obtain ⟨q0, q1, q2⟩ := T2.cells
  obtain ⟨z0, z1, z2⟩ := T2.frees
  have HX : Hid _ := HE.out w2 _ 1 0 (.int .i64 1) (.int .i64 0) (.slice none 0 0) (ls_later (ls_later HL.out hX) b2)
  rw [show ansV 1 0 (.slice none 0 0) = .agg #[.int .i64 1, .int .i64 0, .slice none 0 0] from rfl]
  clear T2 HE HL HT CR b2 HTX hX H5 
  go_wp2
  exact bodyPost_ret (v := ansV 1 0 (.slice none 0 0)) (by simp [results, Try.results25, go_sem, ansV, *]) rfl HX.out

set_option maxHeartbeats 4000000 in
theorem opKeep_up (kd : Int) (fo : Nat) (hkf : (kd = 2 ∧ fo = 3) ∨ (kd = 5 ∧ fo = 4)) (c : Int) (st : Int → ObjD) (W wr : World) (B gx : Nat) (s : HSh) (H : HeapD) (o : OpD) (hL : LS W wr B gx s H (.slice none 0 0) (.slice none 0 0) [] []) (hs : SmallH H) (hkd : o.kind = kd) (hoa : in64 o.a) (hw : ∀ z ∈ H.objs, ∀ x ∈ z.field, in64 x) (k : Nat) (hkl : k < H.objs.length) (ek : slotZ H o.a = (k : Int)) (hk8 : k < 8) (hlv : H.objs[k].live = true) (hT : TimesOf H k fo c st) (hHi : 20 ≤ c → holdR H kd o.a = (H, ⟨4, 0, []⟩)) (hLo : ¬ 20 ≤ c → holdR H kd o.a = (gainD (setO H k (st (c + 1))) o.a, ⟨0, 0, []⟩)) (hb : 0 ≤ c ∧ c ≤ 20) :
    Calls Try.prog 25 #[opV o, .pointer (some ⟨gx, 0, none⟩)] wr fun e w' => ImplPost W B gx (holdR H kd o.a) e w' := by
  obtain ⟨V, hV, BV, sV, F5, F3⟩ := entry2 wr o
  have LV : LS W V B gx s H (.slice none 0 0) (.slice none 0 0) [] [] := ls_later hL BV
  have hgx := hL.x.lt
  have hle := hL.le
  have nh : ¬ HasB s (wr.heap.size + 1) := hm_no hL.m (.inr (by omega))
  have hne : wr.heap.size + 1 ≠ gx := by omega
  have HE : Hid (∀ X H2 c v y0 y1 y2, LS W X B gx s H2 (.slice none 0 0) (.slice none 0 0) [] [] → ImplPost W B gx (H2, ⟨c, v, []⟩) (.returned (ansV c v (.slice none 0 0))) (setThree X (wr.heap.size + 1) y0 y1 y2)) := fun X H2 c v y0 y1 y2 hX => ls_end (w := wr) (wr.heap.size + 1) c v hX (by omega) nh hne (by simp [Value.ownBlock]) y0 y1 y2
  have HT : Hid (Three V (wr.heap.size + 1) (.int .i64 0) (.int .i64 0) (.slice none 0 0)) := F3
  have HL : Hid (LS W V B gx s H (.slice none 0 0) (.slice none 0 0) [] []) := LV
  have CR : Hid (∀ c X, _) := fun c X => refused_calls c X
  unfold opV
  obtain ⟨k0, k1, k2, k3, k4⟩ := F5.cells
  have CS : Hid (∀ X : LaterW V, _) := fun X => iSlotOf_calls s.v H o.a X.on (hm_rd (hm_later LV.m X.bel)) hs.objs hoa.1 hoa.2
  have CN : Hid (∀ X : LaterW V, ∀ z, NoLive H z → _) := fun X z hz => liveIn_no s.v H z X.on (hm_rd (hm_later LV.m X.bel)) hs.objs hz
  have y0 : ∀ X : LaterW V, X.on.cell? ⟨gx, 0, none⟩ = some (.slice s.oa s.os.length s.oc) := fun X => (LV.x.later X.bel).cell 0
  have y1 : ∀ X : LaterW V, X.on.cell? ⟨gx, 1, none⟩ = some (.slice s.wa s.wn s.wc) := fun X => (LV.x.later X.bel).cell 1
  have y2 : ∀ X : LaterW V, X.on.cell? ⟨gx, 2, none⟩ = some (.slice s.ba s.bn s.bc) := fun X => (LV.x.later X.bel).cell 2
  have y3 : ∀ X : LaterW V, X.on.cell? ⟨gx, 3, none⟩ = some (.slice s.sa s.sn s.sc) := fun X => (LV.x.later X.bel).cell 3
  have l0 : ∀ X : LaterW V, X.on.cell? ⟨wr.heap.size, 0, none⟩ = some (.int .i64 o.kind) := fun X => (F5.later X.bel).cell 0
  have l1 : ∀ X : LaterW V, X.on.cell? ⟨wr.heap.size, 1, none⟩ = some (.int .i64 o.a) := fun X => (F5.later X.bel).cell 1
  have l2 : ∀ X : LaterW V, X.on.cell? ⟨wr.heap.size, 2, none⟩ = some (.int .i64 o.b) := fun X => (F5.later X.bel).cell 2
  have l3 : ∀ X : LaterW V, X.on.cell? ⟨wr.heap.size, 3, none⟩ = some (.int .i64 o.c) := fun X => (F5.later X.bel).cell 3
  have hnel := LaterW.some_ V
  have H5 : Hid (Five V wr.heap.size o) := F5
  rw [hsv] at CS CN
  obtain ⟨go, hgo, hgB, hgl⟩ := hm_own LV.m k hkl
  obtain ⟨hk2, hob, hfz⟩ := hm_obj LV.m k hkl go hgo
  have hgq : go ≠ gx := fun e => hL.sx (by rw [← e]; exact .inl ⟨_, hgo, rfl⟩)
  have hgn : go < wr.heap.size := (hm_bl hL.m (.inl ⟨_, hgo, rfl⟩)).2
  have HGO : Hid (s.oa = some ⟨go, 0, none⟩) := hgo
  have hlen : s.os.length ≤ 1048576 := by rw [LV.m.lo]; exact hs.objs
  have CL : Hid (∀ X : LaterW V, _) := fun X => liveIn_at k s.os.length s.oc X.on go s.wa s.wn s.wc s.ba s.bn s.bc s.sa s.sn s.sc ((X.bel.cell (p := ⟨go, k * 8, none⟩) hgl).trans (hob.c0.trans (by rw [hlv]))) hlen hk8 hk2
  rw [← hgo] at CL
  rw [ek] at CS
  have HCC : Hid (∀ X, Below V.heap.size V X → X.cell? ⟨go, k * 8 + fo, none⟩ = some (.int .i64 c) ∧ X.frozen? ⟨go, k * 8 + fo, none⟩ = false) := fun X hX => hT.cell X B s go (hm_later LV.m hX) hgo
  have hg1 : ¬ go = wr.heap.size := by omega
  have hg2 : ¬ wr.heap.size = go := by omega
  have hg3 : ¬ go = wr.heap.size + 1 := by omega
  have hg4 : ¬ wr.heap.size + 1 = go := by omega
  have hg5 : ¬ go = gx := hgq
  have hg6 : ¬ gx = go := fun e => hgq e.symm
  have KK : Hid (∀ X : World, Five X wr.heap.size o → X.cell? ⟨wr.heap.size, 0, none⟩ = some (.int .i64 kd)) := fun X h => by have e := h.cell 0; rw [hkd] at e; exact e
  by_cases ht : 20 ≤ c
  · have HR : Hid (_ = _) := hHi ht
    have hc : c = 20 := by omega
    subst hc
    rw [HR.out]
    rw [hkd] at hV k0 l0
    clear hs hL LV F5 F3 BV HR nh hoa CN hw hob hfz hgo hlv ht hb ek k0 k1 k2 k3 k4 hT hHi hLo
    rw [hkd]
    rcases hkf with ⟨rfl, rfl⟩ | ⟨rfl, rfl⟩
    all_goals
      go_enter Try.func25, Try.ntmps25
      go_wp2
      rw [← hV]
      clear hV
      refine wp_region_later V (Below.refl _ _) (by kernel_rfl) (by kernel_rfl) ?_
      repeat (go_big_quiet_step (first
        | (go_at_call 44; refine (CS.out _).mono ?_; rintro e w2 ⟨rfl, b2⟩; exact ⟨rfl, LaterW.step _ b2⟩)
        | (go_at_call 43; refine (CL.out _).mono ?_; rintro e w2 ⟨rfl, b2⟩; exact ⟨rfl, LaterW.step _ b2⟩)))
      refine wpQuiet_nil ?_
      intro X hXe
      have hX : Below V.heap.size V X := by obtain ⟨n, hn⟩ := hXe; rw [hn]; exact n.bel
      clear hXe y0 y1 y2 y3 l0 l1 l2 l3 hnel CS CL
      have HTX : Hid (Three X (wr.heap.size + 1) (.int .i64 0) (.int .i64 0) (.slice none 0 0)) := HT.out.later hX
      obtain ⟨cc, cz⟩ := HCC.out X hX
      have K5 := H5.out.later hX
      have kk := KK.out X K5
      clear K5
      go_wp2_with fail
      refine (CR.out 4 _).mono ?_
      rintro e w2 ⟨rfl, b2⟩
      have T2 := HTX.out.later b2
      obtain ⟨q0, q1, q2⟩ := T2.cells
      obtain ⟨z0, z1, z2⟩ := T2.frees
      have HX : Hid _ := HE.out w2 _ 4 0 (.int .i64 4) (.int .i64 0) (.slice none 0 0) (ls_later (ls_later HL.out hX) b2)
      rw [show ansV 4 0 (.slice none 0 0) = .agg #[.int .i64 4, .int .i64 0, .slice none 0 0] from rfl]
      clear T2 HE HL HT CR b2 HTX hX H5 HCC cc cz kk HGO 
      go_wp2
      exact bodyPost_ret (v := ansV 4 0 (.slice none 0 0)) (by simp [results, Try.results25, go_sem, ansV, *]) rfl HX.out
  · obtain ⟨M, hMc⟩ : ∃ M, c + 1 = M := ⟨_, rfl⟩
    have HMC : Hid (c + 1 = M) := hMc
    have HW : Hid (∀ X : World, ∃ w1, w1 = X.setCell ⟨go, k * 8 + fo, none⟩ (.int .i64 M)) := fun X => ⟨_, rfl⟩
    have HR : Hid (_ = _) := hLo ht
    rw [hMc] at HR
    have HL1 : Hid (∀ X, Below V.heap.size V X → LS W (X.setCell ⟨go, k * 8 + fo, none⟩ (.int .i64 M)) B gx s (setO H k (st M)) (.slice none 0 0) (.slice none 0 0) [] []) := fun X hX => ls_obj (ls_later LV hX) go (k * 8 + fo) _ hgo (hT.set _ _ _ _ M (ls_later LV hX).m hgo)
    have HSM : Hid (SmallH (setO H k (st M))) := hT.small hs M
    have HWF : Hid (∀ z ∈ (setO H k (st M)).objs, ∀ x ∈ z.field, in64 x) := hT.wf hw M
    have HOA : Hid (in64 o.a) := hoa
    rw [HR.out]
    rw [hkd] at hV k0 l0
    obtain ⟨H1, hH1⟩ : ∃ H1, setO H k (st M) = H1 := ⟨_, rfl⟩
    rw [hH1] at HL1 HSM HWF ⊢
    have hc1 : c < 20 := by omega
    have hcb : c + 1 ≤ 21 := by omega
    have hcd : -1 ≤ c + 1 := by omega
    have hq : (c == 20) = false := by rw [beq_eq_false_iff_ne]; omega
    have hq2 : ¬ c = 20 := by omega
    clear hs hL LV F5 F3 BV HR nh hoa CN hw hob hfz hgo hlv ht hb ek k0 k1 k2 k3 k4 hT hHi hLo CR hMc hH1
    rw [hkd]
    rcases hkf with ⟨rfl, rfl⟩ | ⟨rfl, rfl⟩
    all_goals
      go_enter Try.func25, Try.ntmps25
      go_wp2
      rw [← hV]
      clear hV
      refine wp_region_later V (Below.refl _ _) (by kernel_rfl) (by kernel_rfl) ?_
      repeat (go_big_quiet_step (first
        | (go_at_call 44; refine (CS.out _).mono ?_; rintro e w2 ⟨rfl, b2⟩; exact ⟨rfl, LaterW.step _ b2⟩)
        | (go_at_call 43; refine (CL.out _).mono ?_; rintro e w2 ⟨rfl, b2⟩; exact ⟨rfl, LaterW.step _ b2⟩)))
      refine wpQuiet_nil ?_
      intro X hXe
      have hX : Below V.heap.size V X := by obtain ⟨n, hn⟩ := hXe; rw [hn]; exact n.bel
      clear hXe y0 y1 y2 y3 l0 l1 l2 l3 hnel CS CL
      have HTX : Hid (Three X (wr.heap.size + 1) (.int .i64 0) (.int .i64 0) (.slice none 0 0)) := HT.out.later hX
      obtain ⟨cc, cz⟩ := HCC.out X hX
      have K5 := H5.out.later hX
      have HK5 : Hid (Five X wr.heap.size o) := K5
      have kk := KK.out X K5
      have ka : X.cell? ⟨wr.heap.size, 1, none⟩ = some (.int .i64 o.a) := K5.cell 1
      clear K5
      obtain ⟨w1, hw1⟩ := HW.out X
      have HL2 : Hid (LS W w1 B gx s H1 (.slice none 0 0) (.slice none 0 0) [] []) := by rw [hw1]; exact HL1.out X hX
      have hXs := hX.size
      have s1w : w1.heap.size = X.heap.size := by rw [hw1]; simp [World.setCell]
      have oth : ∀ i, i ≠ go → w1.heap[i]? = X.heap[i]? := fun i hi => by rw [hw1]; exact heap_setCell_other _ _ _ _ (by exact hi)
      have HT2 : Hid (Three w1 (wr.heap.size + 1) (.int .i64 0) (.int .i64 0) (.slice none 0 0)) := HTX.out.same (oth _ hg4)
      have HK2 : Hid (Five w1 wr.heap.size o) := HK5.out.same (oth _ hg2)
      clear oth
      go_wp2
      rw [HMC.out, ← hw1]
      clear HMC hw1 cc cz kk ka
      have HXX : Hid (∀ Y, Below w1.heap.size w1 Y → LS W Y B gx s H1 (.slice none 0 0) (.slice none 0 0) [] [] ∧ Five Y wr.heap.size o ∧ Three Y (wr.heap.size + 1) (.int .i64 0) (.int .i64 0) (.slice none 0 0)) := fun Y hY => ⟨ls_later HL2.out hY, HK2.out.later hY, HT2.out.later hY⟩
      have HCG : Hid (∀ Y, Below w1.heap.size w1 Y → _) := fun Y hY => iGain_calls s.v H1 o.a Y (hm_rd (HXX.out Y hY).1.m) HSM.out HOA.out
      clear HCC HGO HL1 H5 HTX hX HK5 HSM HWF HOA HL
      refine wp_region_last 8 (by kernel_rfl) (by kernel_rfl) (RP 6 (fun X v => ∃ s1 : HSh, v = s1.v ∧ HM X w1.heap.size s1 (gainD H1 o.a)) [.pointer (some ⟨gx, 0, none⟩), .pointer (some ⟨gx, 0, none⟩), .pointer (some ⟨gx, 0, none⟩), .agg #[.slice s.oa s.os.length s.oc, .slice s.wa s.wn s.wc, .slice s.ba s.bn s.bc, .slice s.sa s.sn s.sc], .pointer (some ⟨wr.heap.size, 1, none⟩), .int .i64 o.a, .nilFunc, .pointer (some ⟨gx, 0, none⟩)]) (rp_mono (fun X Y v h hb => by obtain ⟨s1, h1, h2⟩ := h; exact ⟨s1, h1, hm_later h2 hb⟩)) ?_ ?_
      · intro i o hi ho a X hX hA hdep
        match i, hi, ho with
        | 0, _, ho =>
          obtain rfl := Option.some.inj ho
          exact opMove (alike_at hA (t := 1) (by kernel_rfl))  ⟨_, rfl, Below.refl _ _, rp_put (by decide) rfl⟩
        | 1, _, ho =>
          obtain rfl := Option.some.inj ho
          exact opMove (alike_at hA (t := 1) (by kernel_rfl))  ⟨_, rfl, Below.refl _ _, rp_put (by decide) rfl⟩
        | 2, _, ho =>
          obtain rfl := Option.some.inj ho
          have g0_ : a.eval (.tmp 47) = .pointer (some ⟨gx, 0, none⟩) := rp_at (hdep ⟨1, .data⟩ (by simp) rfl 47 rfl) (by decide) rfl
          exact opNil g0_  ⟨_, rfl, Below.refl _ _, rp_put (by decide) rfl⟩
        | 3, _, ho =>
          obtain rfl := Option.some.inj ho
          have g0_ : a.eval (.tmp 48) = .pointer (some ⟨gx, 0, none⟩) := rp_at (hdep ⟨2, .data⟩ (by simp) rfl 48 rfl) (by decide) rfl
          exact opLoadHw g0_ (HXX.out X hX).1.x ⟨_, rfl, Below.refl _ _, rp_put (by decide) rfl⟩
        | 4, _, ho =>
          obtain rfl := Option.some.inj ho
          exact opFieldOp 1 (by omega) (alike_at hA (t := 2) (by kernel_rfl))  ⟨_, rfl, Below.refl _ _, rp_put (by decide) rfl⟩
        | 5, _, ho =>
          obtain rfl := Option.some.inj ho
          have g0_ : a.eval (.tmp 50) = .pointer (some ⟨wr.heap.size, 1, none⟩) := rp_at (hdep ⟨4, .data⟩ (by simp) rfl 50 rfl) (by decide) rfl
          exact opLoadInt g0_ ((HXX.out X hX).2.1.cell 1) ⟨_, rfl, Below.refl _ _, rp_put (by decide) rfl⟩
        | 6, _, ho =>
          obtain rfl := Option.some.inj ho
          have g0_ : a.eval (.tmp 49) = .agg #[.slice s.oa s.os.length s.oc, .slice s.wa s.wn s.wc, .slice s.ba s.bn s.bc, .slice s.sa s.sn s.sc] := rp_at (hdep ⟨3, .data⟩ (by simp) rfl 49 rfl) (by decide) rfl
          have g1_ : a.eval (.tmp 51) = .int .i64 o.a := rp_at (hdep ⟨5, .data⟩ (by simp) rfl 51 rfl) (by decide) rfl
          exact opGainI g0_ g1_ (HCG.out X hX) (fun e w' ⟨s1, h1, h2, h3⟩ => ⟨s1.v, h1, s1.v, rfl, h3, rp_call ⟨s1, rfl, hm_mono h2 hX.size⟩⟩)
        | 7, _, ho =>
          obtain rfl := Option.some.inj ho
          have g0_ : a.eval (.tmp 46) = .pointer (some ⟨gx, 0, none⟩) := rp_at (hdep ⟨0, .data⟩ (by simp) rfl 46 rfl) (by decide) rfl
          exact opNil g0_  ⟨_, rfl, Below.refl _ _, rp_put (by decide) rfl⟩
      · intro o ho a X hX hA hdep
        obtain rfl := Option.some.inj ho
        have g0_ : a.eval (.tmp 53) = .pointer (some ⟨gx, 0, none⟩) := rp_at (hdep ⟨7, .data⟩ (by simp) rfl 53 rfl) (by decide) rfl
        have g1_ := rp_p (hdep ⟨6, .data⟩ (by simp) rfl 52 rfl)
        obtain ⟨s1, hv1, M1⟩ := g1_
        rw [hsv] at hv1
        refine opStoreH g0_ hv1 (HXX.out X hX).1.x ?_
        obtain ⟨us, hus, rfl⟩ := alike_tmps hA [46, 47, 48, 49, 50, 51, 52, 53] (by kernel_rfl)
        have HX2 : Hid (LS W (setFour X gx (.slice s1.oa s1.os.length s1.oc) (.slice s1.wa s1.wn s1.wc) (.slice s1.ba s1.bn s1.bc) (.slice s1.sa s1.sn s1.sc)) B gx s1 (gainD H1 o.a) (.slice none 0 0) (.slice none 0 0) [] []) := ls_swap HL2.out hX M1 (ownI_nil _ _) (fun g hg => by simp [Value.ownBlock] at hg)
        have hsn : ¬ HasB s1 (wr.heap.size + 1) := hm_no M1 (.inl (by omega))
        have HX : Hid _ := ls_end (w := wr) (wr.heap.size + 1) 0 0 HX2.out (by omega) hsn hne (by simp [Value.ownBlock]) (.int .i64 0) (.int .i64 0) (.slice none 0 0)
        have T4 : Three (setFour X gx (.slice s1.oa s1.os.length s1.oc) (.slice s1.wa s1.wn s1.wc) (.slice s1.ba s1.bn s1.bc) (.slice s1.sa s1.sn s1.sc)) (wr.heap.size + 1) (.int .i64 0) (.int .i64 0) (.slice none 0 0) := (HXX.out X hX).2.2.same (setFour_other _ _ _ _ _ _ _ hne)
        clear HX2 hsn M1 HXX HCG HT2 HK2 HL2 hdep hA hus ho hX g0_ hv1
        simp only [List.mapIdx_cons, List.mapIdx_nil, Nat.reduceAdd, List.contains_cons, List.contains_nil, Nat.reduceBEq, Bool.or_false, Bool.or_true, if_true, if_false, Bool.false_eq_true]
        generalize setFour X gx (.slice s1.oa s1.os.length s1.oc) (.slice s1.wa s1.wn s1.wc) (.slice s1.ba s1.bn s1.bc) (.slice s1.sa s1.sn s1.sc) = Y at *
        obtain ⟨q0, q1, q2⟩ := T4.cells
        obtain ⟨z0, z1, z2⟩ := T4.frees
        clear T4
        unfold setThree at HX
        go_wp2
        exact bodyPost_ret (v := ansV 0 0 (.slice none 0 0)) (by simp [results, Try.results25, go_sem, ansV, *]) rfl HX.out

set_option maxHeartbeats 4000000 in
theorem opKeep_down (kd : Int) (fo : Nat) (hkf : (kd = 3 ∧ fo = 3) ∨ (kd = 6 ∧ fo = 4)) (c : Int) (st : Int → ObjD) (W wr : World) (B gx : Nat) (s : HSh) (H : HeapD) (o : OpD) (hL : LS W wr B gx s H (.slice none 0 0) (.slice none 0 0) [] []) (hs : SmallH H) (hkd : o.kind = kd) (hoa : in64 o.a) (hw : ∀ z ∈ H.objs, ∀ x ∈ z.field, in64 x) (k : Nat) (hkl : k < H.objs.length) (ek : slotZ H o.a = (k : Int)) (hk8 : k < 8) (hlv : H.objs[k].live = true) (hT : TimesOf H k fo c st) (hHi : c < 1 → holdR H kd o.a = (H, ⟨5, 0, []⟩)) (hLo : ¬ c < 1 → holdR H kd o.a = lostR (setO H k (st (c - 1))) o.a) (hb : 0 ≤ c ∧ c ≤ 20) :
    Calls Try.prog 25 #[opV o, .pointer (some ⟨gx, 0, none⟩)] wr fun e w' => ImplPost W B gx (holdR H kd o.a) e w' := by
  obtain ⟨V, hV, BV, sV, F5, F3⟩ := entry2 wr o
  have LV : LS W V B gx s H (.slice none 0 0) (.slice none 0 0) [] [] := ls_later hL BV
  have hgx := hL.x.lt
  have hle := hL.le
  have nh : ¬ HasB s (wr.heap.size + 1) := hm_no hL.m (.inr (by omega))
  have hne : wr.heap.size + 1 ≠ gx := by omega
  have HE : Hid (∀ X H2 c v y0 y1 y2, LS W X B gx s H2 (.slice none 0 0) (.slice none 0 0) [] [] → ImplPost W B gx (H2, ⟨c, v, []⟩) (.returned (ansV c v (.slice none 0 0))) (setThree X (wr.heap.size + 1) y0 y1 y2)) := fun X H2 c v y0 y1 y2 hX => ls_end (w := wr) (wr.heap.size + 1) c v hX (by omega) nh hne (by simp [Value.ownBlock]) y0 y1 y2
  have HT : Hid (Three V (wr.heap.size + 1) (.int .i64 0) (.int .i64 0) (.slice none 0 0)) := F3
  have HL : Hid (LS W V B gx s H (.slice none 0 0) (.slice none 0 0) [] []) := LV
  have CR : Hid (∀ c X, _) := fun c X => refused_calls c X
  unfold opV
  obtain ⟨k0, k1, k2, k3, k4⟩ := F5.cells
  have CS : Hid (∀ X : LaterW V, _) := fun X => iSlotOf_calls s.v H o.a X.on (hm_rd (hm_later LV.m X.bel)) hs.objs hoa.1 hoa.2
  have CN : Hid (∀ X : LaterW V, ∀ z, NoLive H z → _) := fun X z hz => liveIn_no s.v H z X.on (hm_rd (hm_later LV.m X.bel)) hs.objs hz
  have y0 : ∀ X : LaterW V, X.on.cell? ⟨gx, 0, none⟩ = some (.slice s.oa s.os.length s.oc) := fun X => (LV.x.later X.bel).cell 0
  have y1 : ∀ X : LaterW V, X.on.cell? ⟨gx, 1, none⟩ = some (.slice s.wa s.wn s.wc) := fun X => (LV.x.later X.bel).cell 1
  have y2 : ∀ X : LaterW V, X.on.cell? ⟨gx, 2, none⟩ = some (.slice s.ba s.bn s.bc) := fun X => (LV.x.later X.bel).cell 2
  have y3 : ∀ X : LaterW V, X.on.cell? ⟨gx, 3, none⟩ = some (.slice s.sa s.sn s.sc) := fun X => (LV.x.later X.bel).cell 3
  have l0 : ∀ X : LaterW V, X.on.cell? ⟨wr.heap.size, 0, none⟩ = some (.int .i64 o.kind) := fun X => (F5.later X.bel).cell 0
  have l1 : ∀ X : LaterW V, X.on.cell? ⟨wr.heap.size, 1, none⟩ = some (.int .i64 o.a) := fun X => (F5.later X.bel).cell 1
  have l2 : ∀ X : LaterW V, X.on.cell? ⟨wr.heap.size, 2, none⟩ = some (.int .i64 o.b) := fun X => (F5.later X.bel).cell 2
  have l3 : ∀ X : LaterW V, X.on.cell? ⟨wr.heap.size, 3, none⟩ = some (.int .i64 o.c) := fun X => (F5.later X.bel).cell 3
  have hnel := LaterW.some_ V
  have H5 : Hid (Five V wr.heap.size o) := F5
  rw [hsv] at CS CN
  obtain ⟨go, hgo, hgB, hgl⟩ := hm_own LV.m k hkl
  obtain ⟨hk2, hob, hfz⟩ := hm_obj LV.m k hkl go hgo
  have hgq : go ≠ gx := fun e => hL.sx (by rw [← e]; exact .inl ⟨_, hgo, rfl⟩)
  have hgn : go < wr.heap.size := (hm_bl hL.m (.inl ⟨_, hgo, rfl⟩)).2
  have HGO : Hid (s.oa = some ⟨go, 0, none⟩) := hgo
  have hlen : s.os.length ≤ 1048576 := by rw [LV.m.lo]; exact hs.objs
  have CL : Hid (∀ X : LaterW V, _) := fun X => liveIn_at k s.os.length s.oc X.on go s.wa s.wn s.wc s.ba s.bn s.bc s.sa s.sn s.sc ((X.bel.cell (p := ⟨go, k * 8, none⟩) hgl).trans (hob.c0.trans (by rw [hlv]))) hlen hk8 hk2
  rw [← hgo] at CL
  rw [ek] at CS
  have HCC : Hid (∀ X, Below V.heap.size V X → X.cell? ⟨go, k * 8 + fo, none⟩ = some (.int .i64 c) ∧ X.frozen? ⟨go, k * 8 + fo, none⟩ = false) := fun X hX => hT.cell X B s go (hm_later LV.m hX) hgo
  have hg1 : ¬ go = wr.heap.size := by omega
  have hg2 : ¬ wr.heap.size = go := by omega
  have hg3 : ¬ go = wr.heap.size + 1 := by omega
  have hg4 : ¬ wr.heap.size + 1 = go := by omega
  have hg5 : ¬ go = gx := hgq
  have hg6 : ¬ gx = go := fun e => hgq e.symm
  have KK : Hid (∀ X : World, Five X wr.heap.size o → X.cell? ⟨wr.heap.size, 0, none⟩ = some (.int .i64 kd)) := fun X h => by have e := h.cell 0; rw [hkd] at e; exact e
  by_cases ht : c < 1
  · have HR : Hid (_ = _) := hHi ht
    have hc : c = 0 := by omega
    subst hc
    rw [HR.out]
    rw [hkd] at hV k0 l0
    clear hs hL LV F5 F3 BV HR nh hoa CN hw hob hfz hgo hlv ht hb ek k0 k1 k2 k3 k4 hT hHi hLo
    rw [hkd]
    rcases hkf with ⟨rfl, rfl⟩ | ⟨rfl, rfl⟩
    all_goals
      go_enter Try.func25, Try.ntmps25
      go_wp2
      rw [← hV]
      clear hV
      refine wp_region_later V (Below.refl _ _) (by kernel_rfl) (by kernel_rfl) ?_
      repeat (go_big_quiet_step (first
        | (go_at_call 44; refine (CS.out _).mono ?_; rintro e w2 ⟨rfl, b2⟩; exact ⟨rfl, LaterW.step _ b2⟩)
        | (go_at_call 43; refine (CL.out _).mono ?_; rintro e w2 ⟨rfl, b2⟩; exact ⟨rfl, LaterW.step _ b2⟩)))
      refine wpQuiet_nil ?_
      intro X hXe
      have hX : Below V.heap.size V X := by obtain ⟨n, hn⟩ := hXe; rw [hn]; exact n.bel
      clear hXe y0 y1 y2 y3 l0 l1 l2 l3 hnel CS CL
      have HTX : Hid (Three X (wr.heap.size + 1) (.int .i64 0) (.int .i64 0) (.slice none 0 0)) := HT.out.later hX
      obtain ⟨cc, cz⟩ := HCC.out X hX
      have K5 := H5.out.later hX
      have kk := KK.out X K5
      clear K5
      go_wp2_with fail
      refine (CR.out 5 _).mono ?_
      rintro e w2 ⟨rfl, b2⟩
      have T2 := HTX.out.later b2
      obtain ⟨q0, q1, q2⟩ := T2.cells
      obtain ⟨z0, z1, z2⟩ := T2.frees
      have HX : Hid _ := HE.out w2 _ 5 0 (.int .i64 5) (.int .i64 0) (.slice none 0 0) (ls_later (ls_later HL.out hX) b2)
      rw [show ansV 5 0 (.slice none 0 0) = .agg #[.int .i64 5, .int .i64 0, .slice none 0 0] from rfl]
      clear T2 HE HL HT CR b2 HTX hX H5 HCC cc cz kk HGO 
      go_wp2
      exact bodyPost_ret (v := ansV 5 0 (.slice none 0 0)) (by simp [results, Try.results25, go_sem, ansV, *]) rfl HX.out
  · obtain ⟨M, hMc⟩ : ∃ M, c - 1 = M := ⟨_, rfl⟩
    have HMC : Hid (c - 1 = M) := hMc
    have HW : Hid (∀ X : World, ∃ w1, w1 = X.setCell ⟨go, k * 8 + fo, none⟩ (.int .i64 M)) := fun X => ⟨_, rfl⟩
    have HR : Hid (_ = _) := hLo ht
    rw [hMc] at HR
    have HL1 : Hid (∀ X, Below V.heap.size V X → LS W (X.setCell ⟨go, k * 8 + fo, none⟩ (.int .i64 M)) B gx s (setO H k (st M)) (.slice none 0 0) (.slice none 0 0) [] []) := fun X hX => ls_obj (ls_later LV hX) go (k * 8 + fo) _ hgo (hT.set _ _ _ _ M (ls_later LV hX).m hgo)
    have HSM : Hid (SmallH (setO H k (st M))) := hT.small hs M
    have HWF : Hid (∀ z ∈ (setO H k (st M)).objs, ∀ x ∈ z.field, in64 x) := hT.wf hw M
    have HOA : Hid (in64 o.a) := hoa
    rw [HR.out]
    rw [hkd] at hV k0 l0
    obtain ⟨H1, hH1⟩ : ∃ H1, setO H k (st M) = H1 := ⟨_, rfl⟩
    rw [hH1] at HL1 HSM HWF ⊢
    have hc1 : 1 ≤ c := by omega
    have hcb : c - 1 ≤ 21 := by omega
    have hcd : -1 ≤ c - 1 := by omega
    have hq : (c == 0) = false := by rw [beq_eq_false_iff_ne]; omega
    have hq2 : ¬ c = 0 := by omega
    clear hs hL LV F5 F3 BV HR nh hoa CN hw hob hfz hgo hlv ht hb ek k0 k1 k2 k3 k4 hT hHi hLo CR hMc hH1
    rw [hkd]
    rcases hkf with ⟨rfl, rfl⟩ | ⟨rfl, rfl⟩
    all_goals
      go_enter Try.func25, Try.ntmps25
      go_wp2
      rw [← hV]
      clear hV
      refine wp_region_later V (Below.refl _ _) (by kernel_rfl) (by kernel_rfl) ?_
      repeat (go_big_quiet_step (first
        | (go_at_call 44; refine (CS.out _).mono ?_; rintro e w2 ⟨rfl, b2⟩; exact ⟨rfl, LaterW.step _ b2⟩)
        | (go_at_call 43; refine (CL.out _).mono ?_; rintro e w2 ⟨rfl, b2⟩; exact ⟨rfl, LaterW.step _ b2⟩)))
      refine wpQuiet_nil ?_
      intro X hXe
      have hX : Below V.heap.size V X := by obtain ⟨n, hn⟩ := hXe; rw [hn]; exact n.bel
      clear hXe y0 y1 y2 y3 l0 l1 l2 l3 hnel CS CL
      have HTX : Hid (Three X (wr.heap.size + 1) (.int .i64 0) (.int .i64 0) (.slice none 0 0)) := HT.out.later hX
      obtain ⟨cc, cz⟩ := HCC.out X hX
      have K5 := H5.out.later hX
      have HK5 : Hid (Five X wr.heap.size o) := K5
      have kk := KK.out X K5
      have ka : X.cell? ⟨wr.heap.size, 1, none⟩ = some (.int .i64 o.a) := K5.cell 1
      clear K5
      obtain ⟨w1, hw1⟩ := HW.out X
      have HL2 : Hid (LS W w1 B gx s H1 (.slice none 0 0) (.slice none 0 0) [] []) := by rw [hw1]; exact HL1.out X hX
      have hXs := hX.size
      have s1w : w1.heap.size = X.heap.size := by rw [hw1]; simp [World.setCell]
      have oth : ∀ i, i ≠ go → w1.heap[i]? = X.heap[i]? := fun i hi => by rw [hw1]; exact heap_setCell_other _ _ _ _ (by exact hi)
      have HT2 : Hid (Three w1 (wr.heap.size + 1) (.int .i64 0) (.int .i64 0) (.slice none 0 0)) := HTX.out.same (oth _ hg4)
      have HK2 : Hid (Five w1 wr.heap.size o) := HK5.out.same (oth _ hg2)
      clear oth
      have CLS : Hid (∀ _ : Unit, _) := fun (_ : Unit) => loses_calls W w1 B gx s H1 o.a HL2.out HSM.out HWF.out HOA.out
      go_wp2_with fail
      rw [HMC.out, ← hw1]
      clear HMC hw1 cc cz kk ka HCC HGO HL1 H5 HTX hX HK5 HSM HWF HOA HL
      refine (CLS.out ()).mono ?_
      rintro e w2 ⟨s2, fa, fc, rfl, L2, hS2, hF2, hfr, hsz⟩
      have T2 : Three w2 (wr.heap.size + 1) (.int .i64 0) (.int .i64 0) (.slice none 0 0) := HT2.out.same (hfr _ (by omega) hne)
      obtain ⟨q0, q1, q2⟩ := T2.cells
      obtain ⟨z0, z1, z2⟩ := T2.frees
      have hsn : ¬ HasB s2 (wr.heap.size + 1) := fun hh => by have := hS2 _ hh; omega
      have hfn : (Value.slice fa (loseR H1 [o.a]).2.length fc).ownBlock ≠ some (wr.heap.size + 1) := fun e => by have := hF2 _ e; omega
      have HX : Hid (ImplPost W B gx (lostR H1 o.a) (.returned (ansV 0 0 (.slice fa (loseR H1 [o.a]).2.length fc))) (setThree w2 (wr.heap.size + 1) (.int .i64 0) (.int .i64 0) (.slice fa (loseR H1 [o.a]).2.length fc))) := ls_end (w := wr) (wr.heap.size + 1) 0 0 L2 (by omega) hsn hne hfn (.int .i64 0) (.int .i64 0) (.slice fa (loseR H1 [o.a]).2.length fc)
      rw [show ansV 0 0 (.slice fa (loseR H1 [o.a]).2.length fc) = .agg #[.int .i64 0, .int .i64 0, .slice fa (loseR H1 [o.a]).2.length fc] from rfl]
      clear hsn hfn T2 HT2 HK2 HL2 CLS L2 hS2 hF2 hfr
      unfold setThree at HX
      go_wp2
      exact bodyPost_ret (v := ansV 0 0 (.slice fa (loseR H1 [o.a]).2.length fc)) (by simp [results, Try.results25, go_sem, ansV, *]) rfl HX.out

end Go.Proofs.Ytjhdnachbahbmaa

namespace Go.Proofs.Ytjhdnachbahbmaa
open Go.RowKit
set_option linter.unusedVariables false
set_option maxRecDepth 100000

/-- One place of one object's fields is turned. -/
theorem ls_field {W wr : World} {B gx : Nat} {s : HSh} {H : HeapD} {vq vf : Value} {todo fr : List Int} (h : LS W wr B gx s H vq vf todo fr) (k : Nat) (hk : k < H.objs.length) (hk2 : k < s.os.length) (g : Nat) (hg : s.os[k].f = some ⟨g, 0, none⟩) (j : Nat) (z : Int) (o' : ObjD) (ho : o' = { H.objs[k] with field := H.objs[k].field.set j z }) : LS W (wr.setCell ⟨g, j, none⟩ (.int .i64 z)) B gx s (setO H k o') vq vf todo fr := by
  have hh : HasB s g := .inr (.inr (.inr (.inr ⟨_, List.getElem_mem hk2, _, hg, rfl⟩)))
  have oth : ∀ x, x ≠ g → (wr.setCell ⟨g, j, none⟩ (.int .i64 z)).heap[x]? = wr.heap[x]? := fun x hx => heap_setCell_other _ _ _ _ (by exact hx)
  exact ⟨h.bel.setCell (hm_bl h.m hh).1 _, h.hB, hm_field h.m k hk hk2 g hg j z o' ho, h.x.same (oth gx (fun e => h.sx (by rw [e]; exact hh))), h.gB, h.sx, ownQ_same h.q (fun x hx => oth x (fun e => h.sq x hx (by rw [e]; exact hh))), ownI_same h.f (fun x hx => oth x (fun e => h.sf x hx (by rw [e]; exact hh))), h.sq, h.sf, h.qf⟩
/-- The row of an object's fields, where there are some. -/
theorem hm_frow {w : World} {B : Nat} {s : HSh} {H : HeapD} (h : HM w B s H) (k : Nat) (hk : k < H.objs.length) (hk2 : k < s.os.length) (j : Nat) (hj : j < H.objs[k].field.length) : ∃ g, s.os[k].f = some ⟨g, 0, none⟩ ∧ s.os[k].n = H.objs[k].field.length ∧ B ≤ g ∧ g < w.heap.size ∧ w.cell? ⟨g, j, none⟩ = some (.int .i64 H.objs[k].field[j]) ∧ w.frozen? ⟨g, j, none⟩ = false := by
  obtain ⟨h1, h2⟩ := h.f k hk hk2
  have h3 := h2
  rw [h1] at h3
  unfold ownI at h3
  rcases h3 with ⟨e1, ⟨e2, e3⟩ | ⟨g, cap, cur, e2, e3, e4, e5, e6, e7⟩⟩
  · omega
  · have e8 := e2
    simp only [Value.slice.injEq] at e8
    refine ⟨g, e8.1, h1, e3, (Array.getElem?_eq_some_iff.1 e4).1, ?_, ?_⟩
    · have h4 := h2
      rw [h1, e8.1] at h4
      unfold ownI at h4
      rw [World.ownsRow.cellAt h4 j (by omega), List.getElem?_map, List.getElem?_eq_getElem hj]
      rfl
    · have h4 := h2
      rw [h1, e8.1] at h4
      unfold ownI at h4
      exact World.ownsRow.frozenAt h4 j
theorem gain_live (H : HeapD) (id : Int) (k : Nat) (h : k < H.objs.length) (h2 : k < (gainD H id).objs.length) : (gainD H id).objs[k].live = H.objs[k].live ∧ (gainD H id).objs[k].field = H.objs[k].field := by
  obtain ⟨c, e⟩ := gain_get H id k h h2
  rw [e]
  exact ⟨rfl, rfl⟩

set_option maxHeartbeats 4000000 in
theorem opStore_1 (W wr : World) (B gx : Nat) (s : HSh) (H : HeapD) (o : OpD) (hL : LS W wr B gx s H (.slice none 0 0) (.slice none 0 0) [] []) (hs : SmallH H) (hoa : in64 o.a) (hob : in64 o.b) (hoc : in64 o.c) (hz : slotZ H o.a < 0) :
    Calls Try.prog 26 #[opV o, .pointer (some ⟨gx, 0, none⟩)] wr fun e w' => ImplPost W B gx (storeR H o.a o.b o.c) e w' := by
  obtain ⟨V, hV, BV, sV, F5, F3⟩ := entry2 wr o
  have LV : LS W V B gx s H (.slice none 0 0) (.slice none 0 0) [] [] := ls_later hL BV
  have hgx := hL.x.lt
  have hle := hL.le
  have nh : ¬ HasB s (wr.heap.size + 1) := hm_no hL.m (.inr (by omega))
  have hne : wr.heap.size + 1 ≠ gx := by omega
  have HE : Hid (∀ X H2 c v y0 y1 y2, LS W X B gx s H2 (.slice none 0 0) (.slice none 0 0) [] [] → ImplPost W B gx (H2, ⟨c, v, []⟩) (.returned (ansV c v (.slice none 0 0))) (setThree X (wr.heap.size + 1) y0 y1 y2)) := fun X H2 c v y0 y1 y2 hX => ls_end (w := wr) (wr.heap.size + 1) c v hX (by omega) nh hne (by simp [Value.ownBlock]) y0 y1 y2
  have HT : Hid (Three V (wr.heap.size + 1) (.int .i64 0) (.int .i64 0) (.slice none 0 0)) := F3
  have HL : Hid (LS W V B gx s H (.slice none 0 0) (.slice none 0 0) [] []) := LV
  have CR : Hid (∀ c X, _) := fun c X => refused_calls c X
  unfold opV
  obtain ⟨k0, k1, k2, k3, k4⟩ := F5.cells
  have CS : Hid (∀ X : LaterW V, _) := fun X => iSlotOf_calls s.v H o.a X.on (hm_rd (hm_later LV.m X.bel)) hs.objs hoa.1 hoa.2
  have CN : Hid (∀ X : LaterW V, ∀ z, NoLive H z → _) := fun X z hz => liveIn_no s.v H z X.on (hm_rd (hm_later LV.m X.bel)) hs.objs hz
  have y0 : ∀ X : LaterW V, X.on.cell? ⟨gx, 0, none⟩ = some (.slice s.oa s.os.length s.oc) := fun X => (LV.x.later X.bel).cell 0
  have y1 : ∀ X : LaterW V, X.on.cell? ⟨gx, 1, none⟩ = some (.slice s.wa s.wn s.wc) := fun X => (LV.x.later X.bel).cell 1
  have y2 : ∀ X : LaterW V, X.on.cell? ⟨gx, 2, none⟩ = some (.slice s.ba s.bn s.bc) := fun X => (LV.x.later X.bel).cell 2
  have y3 : ∀ X : LaterW V, X.on.cell? ⟨gx, 3, none⟩ = some (.slice s.sa s.sn s.sc) := fun X => (LV.x.later X.bel).cell 3
  have l0 : ∀ X : LaterW V, X.on.cell? ⟨wr.heap.size, 0, none⟩ = some (.int .i64 o.kind) := fun X => (F5.later X.bel).cell 0
  have l1 : ∀ X : LaterW V, X.on.cell? ⟨wr.heap.size, 1, none⟩ = some (.int .i64 o.a) := fun X => (F5.later X.bel).cell 1
  have l2 : ∀ X : LaterW V, X.on.cell? ⟨wr.heap.size, 2, none⟩ = some (.int .i64 o.b) := fun X => (F5.later X.bel).cell 2
  have l3 : ∀ X : LaterW V, X.on.cell? ⟨wr.heap.size, 3, none⟩ = some (.int .i64 o.c) := fun X => (F5.later X.bel).cell 3
  have hnel := LaterW.some_ V
  have H5 : Hid (Five V wr.heap.size o) := F5
  rw [hsv] at CS CN
  have CC : Hid (∀ X : LaterW V, _) := fun X => iSlotOf_calls s.v H o.c X.on (hm_rd (hm_later LV.m X.bel)) hs.objs hoc.1 hoc.2
  rw [hsv] at CC
  have HR : Hid (storeR H o.a o.b o.c = (H, ⟨1, 0, []⟩)) := by show _ = _; unfold storeR; rw [if_pos (.inl hz)]; rfl
  rw [HR.out]
  have hd : decide (slotZ H o.a < 0) = true := decide_eq_true hz
  generalize slotZ H o.a = z at *
  generalize slotZ H o.c = zc at *
  clear hs hL LV F5 F3 BV HR nh hoa hob hoc k0 k1 k2 k3 k4 CN
  go_enter Try.func26, Try.ntmps26
  go_wp2
  rw [← hV]
  clear hV
  refine wp_region_later V (Below.refl _ _) (by kernel_rfl) (by kernel_rfl) ?_
  repeat (go_big_quiet_step (first
    | (go_at_call 44; refine (CS.out _).mono ?_; rintro e w2 ⟨rfl, b2⟩; exact ⟨rfl, LaterW.step _ b2⟩)))
  refine wpQuiet_nil ?_
  intro X hXe
  have hX : Below V.heap.size V X := by obtain ⟨n, hn⟩ := hXe; rw [hn]; exact n.bel
  clear hXe
  go_wp2
  refine wp_region_later V hX (by kernel_rfl) (by kernel_rfl) ?_
  repeat (go_big_quiet_step (first
    | (go_at_call 44; refine (CC.out _).mono ?_; rintro e w2 ⟨rfl, b2⟩; exact ⟨rfl, LaterW.step _ b2⟩)))
  refine wpQuiet_nil ?_
  clear hX
  intro X2 hXe
  have hX : Below V.heap.size V X2 := by obtain ⟨n, hn⟩ := hXe; rw [hn]; exact n.bel
  clear hXe y0 y1 y2 y3 l0 l1 l2 l3 hnel CS CC
  have HTX : Hid (Three X2 (wr.heap.size + 1) (.int .i64 0) (.int .i64 0) (.slice none 0 0)) := HT.out.later hX
  go_wp2_with fail
  refine (CR.out 1 _).mono ?_
  rintro e w2 ⟨rfl, b2⟩
  have T2 := HTX.out.later b2
  obtain ⟨q0, q1, q2⟩ := T2.cells
  obtain ⟨z0, z1, z2⟩ := T2.frees
  have HX : Hid _ := HE.out w2 _ 1 0 (.int .i64 1) (.int .i64 0) (.slice none 0 0) (ls_later (ls_later HL.out hX) b2)
  rw [show ansV 1 0 (.slice none 0 0) = .agg #[.int .i64 1, .int .i64 0, .slice none 0 0] from rfl]
  clear T2 HE HL HT CR b2 HTX hX H5 
  go_wp2
  exact bodyPost_ret (v := ansV 1 0 (.slice none 0 0)) (by simp [results, Try.results26, go_sem, ansV, *]) rfl HX.out

set_option maxHeartbeats 4000000 in
theorem opStore_2 (W wr : World) (B gx : Nat) (s : HSh) (H : HeapD) (o : OpD) (hL : LS W wr B gx s H (.slice none 0 0) (.slice none 0 0) [] []) (hs : SmallH H) (hoa : in64 o.a) (hob : in64 o.b) (hoc : in64 o.c) (hz : 0 ≤ slotZ H o.a) (hc : o.c ≠ -1) (hzc : slotZ H o.c < 0) :
    Calls Try.prog 26 #[opV o, .pointer (some ⟨gx, 0, none⟩)] wr fun e w' => ImplPost W B gx (storeR H o.a o.b o.c) e w' := by
  obtain ⟨V, hV, BV, sV, F5, F3⟩ := entry2 wr o
  have LV : LS W V B gx s H (.slice none 0 0) (.slice none 0 0) [] [] := ls_later hL BV
  have hgx := hL.x.lt
  have hle := hL.le
  have nh : ¬ HasB s (wr.heap.size + 1) := hm_no hL.m (.inr (by omega))
  have hne : wr.heap.size + 1 ≠ gx := by omega
  have HE : Hid (∀ X H2 c v y0 y1 y2, LS W X B gx s H2 (.slice none 0 0) (.slice none 0 0) [] [] → ImplPost W B gx (H2, ⟨c, v, []⟩) (.returned (ansV c v (.slice none 0 0))) (setThree X (wr.heap.size + 1) y0 y1 y2)) := fun X H2 c v y0 y1 y2 hX => ls_end (w := wr) (wr.heap.size + 1) c v hX (by omega) nh hne (by simp [Value.ownBlock]) y0 y1 y2
  have HT : Hid (Three V (wr.heap.size + 1) (.int .i64 0) (.int .i64 0) (.slice none 0 0)) := F3
  have HL : Hid (LS W V B gx s H (.slice none 0 0) (.slice none 0 0) [] []) := LV
  have CR : Hid (∀ c X, _) := fun c X => refused_calls c X
  unfold opV
  obtain ⟨k0, k1, k2, k3, k4⟩ := F5.cells
  have CS : Hid (∀ X : LaterW V, _) := fun X => iSlotOf_calls s.v H o.a X.on (hm_rd (hm_later LV.m X.bel)) hs.objs hoa.1 hoa.2
  have CN : Hid (∀ X : LaterW V, ∀ z, NoLive H z → _) := fun X z hz => liveIn_no s.v H z X.on (hm_rd (hm_later LV.m X.bel)) hs.objs hz
  have y0 : ∀ X : LaterW V, X.on.cell? ⟨gx, 0, none⟩ = some (.slice s.oa s.os.length s.oc) := fun X => (LV.x.later X.bel).cell 0
  have y1 : ∀ X : LaterW V, X.on.cell? ⟨gx, 1, none⟩ = some (.slice s.wa s.wn s.wc) := fun X => (LV.x.later X.bel).cell 1
  have y2 : ∀ X : LaterW V, X.on.cell? ⟨gx, 2, none⟩ = some (.slice s.ba s.bn s.bc) := fun X => (LV.x.later X.bel).cell 2
  have y3 : ∀ X : LaterW V, X.on.cell? ⟨gx, 3, none⟩ = some (.slice s.sa s.sn s.sc) := fun X => (LV.x.later X.bel).cell 3
  have l0 : ∀ X : LaterW V, X.on.cell? ⟨wr.heap.size, 0, none⟩ = some (.int .i64 o.kind) := fun X => (F5.later X.bel).cell 0
  have l1 : ∀ X : LaterW V, X.on.cell? ⟨wr.heap.size, 1, none⟩ = some (.int .i64 o.a) := fun X => (F5.later X.bel).cell 1
  have l2 : ∀ X : LaterW V, X.on.cell? ⟨wr.heap.size, 2, none⟩ = some (.int .i64 o.b) := fun X => (F5.later X.bel).cell 2
  have l3 : ∀ X : LaterW V, X.on.cell? ⟨wr.heap.size, 3, none⟩ = some (.int .i64 o.c) := fun X => (F5.later X.bel).cell 3
  have hnel := LaterW.some_ V
  have H5 : Hid (Five V wr.heap.size o) := F5
  rw [hsv] at CS CN
  have CC : Hid (∀ X : LaterW V, _) := fun X => iSlotOf_calls s.v H o.c X.on (hm_rd (hm_later LV.m X.bel)) hs.objs hoc.1 hoc.2
  rw [hsv] at CC
  have HR : Hid (storeR H o.a o.b o.c = (H, ⟨1, 0, []⟩)) := by show _ = _; unfold storeR; rw [if_pos (.inr ⟨hc, hzc⟩)]; rfl
  rw [HR.out]
  have hd : decide (slotZ H o.a < 0) = false := decide_eq_false (by omega)
  have hd2 : decide (slotZ H o.c < 0) = true := decide_eq_true hzc
  have hd3 : (o.c != (-1 : Int)) = true := by simpa using hc
  generalize slotZ H o.a = z at *
  generalize slotZ H o.c = zc at *
  clear hs hL LV F5 F3 BV HR nh hoa hob hoc k0 k1 k2 k3 k4 CN
  go_enter Try.func26, Try.ntmps26
  go_wp2
  rw [← hV]
  clear hV
  refine wp_region_later V (Below.refl _ _) (by kernel_rfl) (by kernel_rfl) ?_
  repeat (go_big_quiet_step (first
    | (go_at_call 44; refine (CS.out _).mono ?_; rintro e w2 ⟨rfl, b2⟩; exact ⟨rfl, LaterW.step _ b2⟩)))
  refine wpQuiet_nil ?_
  intro X hXe
  have hX : Below V.heap.size V X := by obtain ⟨n, hn⟩ := hXe; rw [hn]; exact n.bel
  clear hXe
  go_wp2
  refine wp_region_later V hX (by kernel_rfl) (by kernel_rfl) ?_
  repeat (go_big_quiet_step (first
    | (go_at_call 44; refine (CC.out _).mono ?_; rintro e w2 ⟨rfl, b2⟩; exact ⟨rfl, LaterW.step _ b2⟩)))
  refine wpQuiet_nil ?_
  clear hX
  intro X2 hXe
  have hX : Below V.heap.size V X2 := by obtain ⟨n, hn⟩ := hXe; rw [hn]; exact n.bel
  clear hXe y0 y1 y2 y3 l0 l1 l2 l3 hnel CS CC
  have HTX : Hid (Three X2 (wr.heap.size + 1) (.int .i64 0) (.int .i64 0) (.slice none 0 0)) := HT.out.later hX
  go_wp2_with fail
  refine (CR.out 1 _).mono ?_
  rintro e w2 ⟨rfl, b2⟩
  have T2 := HTX.out.later b2
  obtain ⟨q0, q1, q2⟩ := T2.cells
  obtain ⟨z0, z1, z2⟩ := T2.frees
  have HX : Hid _ := HE.out w2 _ 1 0 (.int .i64 1) (.int .i64 0) (.slice none 0 0) (ls_later (ls_later HL.out hX) b2)
  rw [show ansV 1 0 (.slice none 0 0) = .agg #[.int .i64 1, .int .i64 0, .slice none 0 0] from rfl]
  clear T2 HE HL HT CR b2 HTX hX H5 
  go_wp2
  exact bodyPost_ret (v := ansV 1 0 (.slice none 0 0)) (by simp [results, Try.results26, go_sem, ansV, *]) rfl HX.out

set_option maxHeartbeats 4000000 in
theorem opStore_3n (W wr : World) (B gx : Nat) (s : HSh) (H : HeapD) (o : OpD) (hL : LS W wr B gx s H (.slice none 0 0) (.slice none 0 0) [] []) (hs : SmallH H) (hoa : in64 o.a) (hob : in64 o.b) (hoc : in64 o.c) (hz : 0 ≤ slotZ H o.a) (hc : o.c = -1) (hb : o.b < 0 ∨ 2 < o.b) :
    Calls Try.prog 26 #[opV o, .pointer (some ⟨gx, 0, none⟩)] wr fun e w' => ImplPost W B gx (storeR H o.a o.b o.c) e w' := by
  obtain ⟨V, hV, BV, sV, F5, F3⟩ := entry2 wr o
  have LV : LS W V B gx s H (.slice none 0 0) (.slice none 0 0) [] [] := ls_later hL BV
  have hgx := hL.x.lt
  have hle := hL.le
  have nh : ¬ HasB s (wr.heap.size + 1) := hm_no hL.m (.inr (by omega))
  have hne : wr.heap.size + 1 ≠ gx := by omega
  have HE : Hid (∀ X H2 c v y0 y1 y2, LS W X B gx s H2 (.slice none 0 0) (.slice none 0 0) [] [] → ImplPost W B gx (H2, ⟨c, v, []⟩) (.returned (ansV c v (.slice none 0 0))) (setThree X (wr.heap.size + 1) y0 y1 y2)) := fun X H2 c v y0 y1 y2 hX => ls_end (w := wr) (wr.heap.size + 1) c v hX (by omega) nh hne (by simp [Value.ownBlock]) y0 y1 y2
  have HT : Hid (Three V (wr.heap.size + 1) (.int .i64 0) (.int .i64 0) (.slice none 0 0)) := F3
  have HL : Hid (LS W V B gx s H (.slice none 0 0) (.slice none 0 0) [] []) := LV
  have CR : Hid (∀ c X, _) := fun c X => refused_calls c X
  unfold opV
  obtain ⟨k0, k1, k2, k3, k4⟩ := F5.cells
  have CS : Hid (∀ X : LaterW V, _) := fun X => iSlotOf_calls s.v H o.a X.on (hm_rd (hm_later LV.m X.bel)) hs.objs hoa.1 hoa.2
  have CN : Hid (∀ X : LaterW V, ∀ z, NoLive H z → _) := fun X z hz => liveIn_no s.v H z X.on (hm_rd (hm_later LV.m X.bel)) hs.objs hz
  have y0 : ∀ X : LaterW V, X.on.cell? ⟨gx, 0, none⟩ = some (.slice s.oa s.os.length s.oc) := fun X => (LV.x.later X.bel).cell 0
  have y1 : ∀ X : LaterW V, X.on.cell? ⟨gx, 1, none⟩ = some (.slice s.wa s.wn s.wc) := fun X => (LV.x.later X.bel).cell 1
  have y2 : ∀ X : LaterW V, X.on.cell? ⟨gx, 2, none⟩ = some (.slice s.ba s.bn s.bc) := fun X => (LV.x.later X.bel).cell 2
  have y3 : ∀ X : LaterW V, X.on.cell? ⟨gx, 3, none⟩ = some (.slice s.sa s.sn s.sc) := fun X => (LV.x.later X.bel).cell 3
  have l0 : ∀ X : LaterW V, X.on.cell? ⟨wr.heap.size, 0, none⟩ = some (.int .i64 o.kind) := fun X => (F5.later X.bel).cell 0
  have l1 : ∀ X : LaterW V, X.on.cell? ⟨wr.heap.size, 1, none⟩ = some (.int .i64 o.a) := fun X => (F5.later X.bel).cell 1
  have l2 : ∀ X : LaterW V, X.on.cell? ⟨wr.heap.size, 2, none⟩ = some (.int .i64 o.b) := fun X => (F5.later X.bel).cell 2
  have l3 : ∀ X : LaterW V, X.on.cell? ⟨wr.heap.size, 3, none⟩ = some (.int .i64 o.c) := fun X => (F5.later X.bel).cell 3
  have hnel := LaterW.some_ V
  have H5 : Hid (Five V wr.heap.size o) := F5
  rw [hsv] at CS CN
  have CC : Hid (∀ X : LaterW V, _) := fun X => iSlotOf_calls s.v H o.c X.on (hm_rd (hm_later LV.m X.bel)) hs.objs hoc.1 hoc.2
  rw [hsv] at CC
  have hno : ¬ (slotZ H o.a < 0 ∨ (o.c ≠ -1 ∧ slotZ H o.c < 0)) := by
    rintro (h | ⟨h, h2⟩)
    · omega
    · exact h hc
  have hd : decide (slotZ H o.a < 0) = false := decide_eq_false (by omega)
  have hd3 : (o.c != (-1 : Int)) = false := by simp [hc]
  have HR : Hid (storeR H o.a o.b o.c = (H, ⟨2, 0, []⟩)) := by show _ = _; unfold storeR; rw [if_neg hno, if_pos hb]; rfl
  rw [HR.out]
  have CW : Hid (∀ X, _) := fun X => within_no o.b 0 2 X hb
  have HL5 : Hid (∀ X, Below V.heap.size V X → X.cell? ⟨wr.heap.size, 2, none⟩ = some (.int .i64 o.b)) := fun X hX => (F5.later hX).cell 2
  generalize slotZ H o.a = z at *
  generalize slotZ H o.c = zc at *
  clear hs hL LV F5 F3 BV HR nh hoa hob hoc k0 k1 k2 k3 k4 CN hno hb
  rw [hc] at hV l3
  rw [hc]
  go_enter Try.func26, Try.ntmps26
  go_wp2
  rw [← hV]
  clear hV
  refine wp_region_later V (Below.refl _ _) (by kernel_rfl) (by kernel_rfl) ?_
  repeat (go_big_quiet_step (first
    | (go_at_call 44; refine (CS.out _).mono ?_; rintro e w2 ⟨rfl, b2⟩; exact ⟨rfl, LaterW.step _ b2⟩)))
  refine wpQuiet_nil ?_
  intro X hXe
  have hX : Below V.heap.size V X := by obtain ⟨n, hn⟩ := hXe; rw [hn]; exact n.bel
  clear hXe
  go_wp2
  refine wp_region_later V hX (by kernel_rfl) (by kernel_rfl) ?_
  repeat (go_big_quiet_step (first
    | (go_at_call 44; refine (CC.out _).mono ?_; rintro e w2 ⟨rfl, b2⟩; exact ⟨rfl, LaterW.step _ b2⟩)))
  refine wpQuiet_nil ?_
  clear hX
  intro X2 hXe
  have hX : Below V.heap.size V X2 := by obtain ⟨n, hn⟩ := hXe; rw [hn]; exact n.bel
  clear hXe y0 y1 y2 y3 l0 l1 l2 l3 hnel CS CC
  have HTX : Hid (Three X2 (wr.heap.size + 1) (.int .i64 0) (.int .i64 0) (.slice none 0 0)) := HT.out.later hX
  have kb := HL5.out X2 hX
  go_wp2_with fail
  refine (CW.out _).mono ?_
  rintro e w5 ⟨rfl, rfl⟩
  go_wp2_with fail
  refine (CR.out 2 _).mono ?_
  rintro e w2 ⟨rfl, b2⟩
  have T2 := HTX.out.later b2
  obtain ⟨q0, q1, q2⟩ := T2.cells
  obtain ⟨z0, z1, z2⟩ := T2.frees
  have HX : Hid _ := HE.out w2 _ 2 0 (.int .i64 2) (.int .i64 0) (.slice none 0 0) (ls_later (ls_later HL.out hX) b2)
  rw [show ansV 2 0 (.slice none 0 0) = .agg #[.int .i64 2, .int .i64 0, .slice none 0 0] from rfl]
  clear T2 HE HL HT CR b2 HTX hX H5 CW HL5 kb 
  go_wp2
  exact bodyPost_ret (v := ansV 2 0 (.slice none 0 0)) (by simp [results, Try.results26, go_sem, ansV, *]) rfl HX.out

set_option maxHeartbeats 4000000 in
theorem opStore_3y (W wr : World) (B gx : Nat) (s : HSh) (H : HeapD) (o : OpD) (hL : LS W wr B gx s H (.slice none 0 0) (.slice none 0 0) [] []) (hs : SmallH H) (hoa : in64 o.a) (hob : in64 o.b) (hoc : in64 o.c) (hz : 0 ≤ slotZ H o.a) (hc : o.c ≠ -1) (hzc : 0 ≤ slotZ H o.c) (hb : o.b < 0 ∨ 2 < o.b) :
    Calls Try.prog 26 #[opV o, .pointer (some ⟨gx, 0, none⟩)] wr fun e w' => ImplPost W B gx (storeR H o.a o.b o.c) e w' := by
  obtain ⟨V, hV, BV, sV, F5, F3⟩ := entry2 wr o
  have LV : LS W V B gx s H (.slice none 0 0) (.slice none 0 0) [] [] := ls_later hL BV
  have hgx := hL.x.lt
  have hle := hL.le
  have nh : ¬ HasB s (wr.heap.size + 1) := hm_no hL.m (.inr (by omega))
  have hne : wr.heap.size + 1 ≠ gx := by omega
  have HE : Hid (∀ X H2 c v y0 y1 y2, LS W X B gx s H2 (.slice none 0 0) (.slice none 0 0) [] [] → ImplPost W B gx (H2, ⟨c, v, []⟩) (.returned (ansV c v (.slice none 0 0))) (setThree X (wr.heap.size + 1) y0 y1 y2)) := fun X H2 c v y0 y1 y2 hX => ls_end (w := wr) (wr.heap.size + 1) c v hX (by omega) nh hne (by simp [Value.ownBlock]) y0 y1 y2
  have HT : Hid (Three V (wr.heap.size + 1) (.int .i64 0) (.int .i64 0) (.slice none 0 0)) := F3
  have HL : Hid (LS W V B gx s H (.slice none 0 0) (.slice none 0 0) [] []) := LV
  have CR : Hid (∀ c X, _) := fun c X => refused_calls c X
  unfold opV
  obtain ⟨k0, k1, k2, k3, k4⟩ := F5.cells
  have CS : Hid (∀ X : LaterW V, _) := fun X => iSlotOf_calls s.v H o.a X.on (hm_rd (hm_later LV.m X.bel)) hs.objs hoa.1 hoa.2
  have CN : Hid (∀ X : LaterW V, ∀ z, NoLive H z → _) := fun X z hz => liveIn_no s.v H z X.on (hm_rd (hm_later LV.m X.bel)) hs.objs hz
  have y0 : ∀ X : LaterW V, X.on.cell? ⟨gx, 0, none⟩ = some (.slice s.oa s.os.length s.oc) := fun X => (LV.x.later X.bel).cell 0
  have y1 : ∀ X : LaterW V, X.on.cell? ⟨gx, 1, none⟩ = some (.slice s.wa s.wn s.wc) := fun X => (LV.x.later X.bel).cell 1
  have y2 : ∀ X : LaterW V, X.on.cell? ⟨gx, 2, none⟩ = some (.slice s.ba s.bn s.bc) := fun X => (LV.x.later X.bel).cell 2
  have y3 : ∀ X : LaterW V, X.on.cell? ⟨gx, 3, none⟩ = some (.slice s.sa s.sn s.sc) := fun X => (LV.x.later X.bel).cell 3
  have l0 : ∀ X : LaterW V, X.on.cell? ⟨wr.heap.size, 0, none⟩ = some (.int .i64 o.kind) := fun X => (F5.later X.bel).cell 0
  have l1 : ∀ X : LaterW V, X.on.cell? ⟨wr.heap.size, 1, none⟩ = some (.int .i64 o.a) := fun X => (F5.later X.bel).cell 1
  have l2 : ∀ X : LaterW V, X.on.cell? ⟨wr.heap.size, 2, none⟩ = some (.int .i64 o.b) := fun X => (F5.later X.bel).cell 2
  have l3 : ∀ X : LaterW V, X.on.cell? ⟨wr.heap.size, 3, none⟩ = some (.int .i64 o.c) := fun X => (F5.later X.bel).cell 3
  have hnel := LaterW.some_ V
  have H5 : Hid (Five V wr.heap.size o) := F5
  rw [hsv] at CS CN
  have CC : Hid (∀ X : LaterW V, _) := fun X => iSlotOf_calls s.v H o.c X.on (hm_rd (hm_later LV.m X.bel)) hs.objs hoc.1 hoc.2
  rw [hsv] at CC
  have hno : ¬ (slotZ H o.a < 0 ∨ (o.c ≠ -1 ∧ slotZ H o.c < 0)) := by
    rintro (h | ⟨h, h2⟩)
    · omega
    · omega
  have hd : decide (slotZ H o.a < 0) = false := decide_eq_false (by omega)
  have hd2 : decide (slotZ H o.c < 0) = false := decide_eq_false (by omega)
  have hd3 : (o.c != (-1 : Int)) = true := by simpa using hc
  have HR : Hid (storeR H o.a o.b o.c = (H, ⟨2, 0, []⟩)) := by show _ = _; unfold storeR; rw [if_neg hno, if_pos hb]; rfl
  rw [HR.out]
  have CW : Hid (∀ X, _) := fun X => within_no o.b 0 2 X hb
  have HL5 : Hid (∀ X, Below V.heap.size V X → X.cell? ⟨wr.heap.size, 2, none⟩ = some (.int .i64 o.b)) := fun X hX => (F5.later hX).cell 2
  generalize slotZ H o.a = z at *
  generalize slotZ H o.c = zc at *
  clear hs hL LV F5 F3 BV HR nh hoa hob hoc k0 k1 k2 k3 k4 CN hno hb
  go_enter Try.func26, Try.ntmps26
  go_wp2
  rw [← hV]
  clear hV
  refine wp_region_later V (Below.refl _ _) (by kernel_rfl) (by kernel_rfl) ?_
  repeat (go_big_quiet_step (first
    | (go_at_call 44; refine (CS.out _).mono ?_; rintro e w2 ⟨rfl, b2⟩; exact ⟨rfl, LaterW.step _ b2⟩)))
  refine wpQuiet_nil ?_
  intro X hXe
  have hX : Below V.heap.size V X := by obtain ⟨n, hn⟩ := hXe; rw [hn]; exact n.bel
  clear hXe
  go_wp2
  refine wp_region_later V hX (by kernel_rfl) (by kernel_rfl) ?_
  repeat (go_big_quiet_step (first
    | (go_at_call 44; refine (CC.out _).mono ?_; rintro e w2 ⟨rfl, b2⟩; exact ⟨rfl, LaterW.step _ b2⟩)))
  refine wpQuiet_nil ?_
  clear hX
  intro X2 hXe
  have hX : Below V.heap.size V X2 := by obtain ⟨n, hn⟩ := hXe; rw [hn]; exact n.bel
  clear hXe y0 y1 y2 y3 l0 l1 l2 l3 hnel CS CC
  have HTX : Hid (Three X2 (wr.heap.size + 1) (.int .i64 0) (.int .i64 0) (.slice none 0 0)) := HT.out.later hX
  have kb := HL5.out X2 hX
  go_wp2_with fail
  refine (CW.out _).mono ?_
  rintro e w5 ⟨rfl, rfl⟩
  go_wp2_with fail
  refine (CR.out 2 _).mono ?_
  rintro e w2 ⟨rfl, b2⟩
  have T2 := HTX.out.later b2
  obtain ⟨q0, q1, q2⟩ := T2.cells
  obtain ⟨z0, z1, z2⟩ := T2.frees
  have HX : Hid _ := HE.out w2 _ 2 0 (.int .i64 2) (.int .i64 0) (.slice none 0 0) (ls_later (ls_later HL.out hX) b2)
  rw [show ansV 2 0 (.slice none 0 0) = .agg #[.int .i64 2, .int .i64 0, .slice none 0 0] from rfl]
  clear T2 HE HL HT CR b2 HTX hX H5 CW HL5 kb 
  go_wp2
  exact bodyPost_ret (v := ansV 2 0 (.slice none 0 0)) (by simp [results, Try.results26, go_sem, ansV, *]) rfl HX.out

set_option maxHeartbeats 4000000 in
theorem opStore_4 (W wr : World) (B gx : Nat) (s : HSh) (H : HeapD) (o : OpD) (hL : LS W wr B gx s H (.slice none 0 0) (.slice none 0 0) [] []) (hs : SmallH H) (hoa : in64 o.a) (hob : in64 o.b) (hoc : in64 o.c) (hw : ∀ z ∈ H.objs, ∀ x ∈ z.field, in64 x) (k : Nat) (hkl : k < H.objs.length) (hk8 : k < 8) (hlv : H.objs[k].live = true) (hfl : H.objs[k].field.length = 3) (ek : slotZ H o.a = (k : Int)) (hyn : o.c = -1 ∨ (o.c ≠ -1 ∧ 0 ≤ slotZ H o.c)) (j : Nat) (hj : j < 3) (hbj : o.b = (j : Int)) :
    Calls Try.prog 26 #[opV o, .pointer (some ⟨gx, 0, none⟩)] wr fun e w' => ImplPost W B gx (storeR H o.a o.b o.c) e w' := by
  rcases hyn with hc | ⟨hc, hzc⟩
  all_goals
    obtain ⟨V, hV, BV, sV, F5, F3⟩ := entry2 wr o
    have LV : LS W V B gx s H (.slice none 0 0) (.slice none 0 0) [] [] := ls_later hL BV
    have hgx := hL.x.lt
    have hle := hL.le
    have nh : ¬ HasB s (wr.heap.size + 1) := hm_no hL.m (.inr (by omega))
    have hne : wr.heap.size + 1 ≠ gx := by omega
    have HE : Hid (∀ X H2 c v y0 y1 y2, LS W X B gx s H2 (.slice none 0 0) (.slice none 0 0) [] [] → ImplPost W B gx (H2, ⟨c, v, []⟩) (.returned (ansV c v (.slice none 0 0))) (setThree X (wr.heap.size + 1) y0 y1 y2)) := fun X H2 c v y0 y1 y2 hX => ls_end (w := wr) (wr.heap.size + 1) c v hX (by omega) nh hne (by simp [Value.ownBlock]) y0 y1 y2
    have HT : Hid (Three V (wr.heap.size + 1) (.int .i64 0) (.int .i64 0) (.slice none 0 0)) := F3
    have HL : Hid (LS W V B gx s H (.slice none 0 0) (.slice none 0 0) [] []) := LV
    have CR : Hid (∀ c X, _) := fun c X => refused_calls c X
    unfold opV
    obtain ⟨k0, k1, k2, k3, k4⟩ := F5.cells
    have hz : 0 ≤ slotZ H o.a := by omega
    have CS : Hid (∀ X : LaterW V, _) := fun X => iSlotOf_calls s.v H o.a X.on (hm_rd (hm_later LV.m X.bel)) hs.objs hoa.1 hoa.2
    have CN : Hid (∀ X : LaterW V, ∀ z, NoLive H z → _) := fun X z hz => liveIn_no s.v H z X.on (hm_rd (hm_later LV.m X.bel)) hs.objs hz
    have y0 : ∀ X : LaterW V, X.on.cell? ⟨gx, 0, none⟩ = some (.slice s.oa s.os.length s.oc) := fun X => (LV.x.later X.bel).cell 0
    have y1 : ∀ X : LaterW V, X.on.cell? ⟨gx, 1, none⟩ = some (.slice s.wa s.wn s.wc) := fun X => (LV.x.later X.bel).cell 1
    have y2 : ∀ X : LaterW V, X.on.cell? ⟨gx, 2, none⟩ = some (.slice s.ba s.bn s.bc) := fun X => (LV.x.later X.bel).cell 2
    have y3 : ∀ X : LaterW V, X.on.cell? ⟨gx, 3, none⟩ = some (.slice s.sa s.sn s.sc) := fun X => (LV.x.later X.bel).cell 3
    have l0 : ∀ X : LaterW V, X.on.cell? ⟨wr.heap.size, 0, none⟩ = some (.int .i64 o.kind) := fun X => (F5.later X.bel).cell 0
    have l1 : ∀ X : LaterW V, X.on.cell? ⟨wr.heap.size, 1, none⟩ = some (.int .i64 o.a) := fun X => (F5.later X.bel).cell 1
    have l2 : ∀ X : LaterW V, X.on.cell? ⟨wr.heap.size, 2, none⟩ = some (.int .i64 o.b) := fun X => (F5.later X.bel).cell 2
    have l3 : ∀ X : LaterW V, X.on.cell? ⟨wr.heap.size, 3, none⟩ = some (.int .i64 o.c) := fun X => (F5.later X.bel).cell 3
    have hnel := LaterW.some_ V
    have H5 : Hid (Five V wr.heap.size o) := F5
    rw [hsv] at CS CN
    have CC : Hid (∀ X : LaterW V, _) := fun X => iSlotOf_calls s.v H o.c X.on (hm_rd (hm_later LV.m X.bel)) hs.objs hoc.1 hoc.2
    rw [hsv] at CC
    have hno : ¬ (slotZ H o.a < 0 ∨ (o.c ≠ -1 ∧ slotZ H o.c < 0)) := by
      rintro (h | ⟨h, h2⟩)
      · omega
      · first | exact h hc | omega
    have hd : decide (slotZ H o.a < 0) = false := decide_eq_false (by omega)
    first
      | (have hd3 : (o.c != (-1 : Int)) = false := by simp [hc])
      | (have hd2 : decide (slotZ H o.c < 0) = false := decide_eq_false (by omega); have hd3 : (o.c != (-1 : Int)) = true := by simpa using hc)
    have hG0 : k < (gainD H o.c).objs.length := by rw [gain_len]; exact hkl
    obtain ⟨hG1, hG2⟩ := gain_live H o.c k hkl hG0
    have HSM0 : SmallH (gainD H o.c) := gainH_small hs o.c
    have HWF0 := gain_wf hw o.c
    have HCG : Hid (∀ X, RdH X s.v H → _) := fun X hX => iGain_calls s.v H o.c X hX hs hoc
    rw [hsv] at HCG
    rw [ek] at CS hd
    obtain ⟨G, hG⟩ : ∃ G, gainD H o.c = G := ⟨_, rfl⟩
    have hGg : (gainD H o.c).objs[((k : Int)).toNat]? = G.objs[k]? := by rw [hG, Int.toNat_natCast]
    simp only [hG] at hG0 hG1 hG2 HSM0 HWF0 HCG
    rw [hlv] at hG1
    have hG3 : G.objs[k].field.length = 3 := by rw [hG2]; exact hfl
    have hj3 : j < G.objs[k].field.length := by omega
    obtain ⟨o1, ho1⟩ : ∃ o1 : ObjD, o1 = { G.objs[k] with field := G.objs[k].field.set j o.c } := ⟨_, rfl⟩
    obtain ⟨old, hold⟩ : ∃ z, G.objs[k].field[j] = z := ⟨_, rfl⟩
    have HR : Hid (storeR H o.a o.b o.c = lostR (setO G k o1) old) := by
      show _ = _
      unfold storeR
      rw [if_neg hno, if_neg (by omega), ek, hGg, hbj, List.getElem?_eq_getElem hG0]
      simp only [Int.toNat_natCast, hG]
      rw [← ho1, List.getD_eq_getElem?_getD, List.getElem?_eq_getElem hj3, hold]
      rfl
    have hof : ∀ x ∈ o1.field, in64 x := by
      rw [ho1]
      intro x hx
      rcases List.mem_or_eq_of_mem_set hx with hx | rfl
      · exact HWF0 _ (List.getElem_mem hG0) x hx
      · exact hoc
    have HSM : Hid (SmallH (setO G k o1)) := setO_small HSM0 k _ (by rw [ho1]; simp only [List.length_set]; omega)
    have HWF : Hid (∀ z ∈ (setO G k o1).objs, ∀ x ∈ z.field, in64 x) := setO_wf HWF0 k _ hof
    have HOLD : Hid (in64 old) := by show in64 old; rw [← hold]; exact HWF0 _ (List.getElem_mem hG0) _ (List.getElem_mem hj3)
    have HGO : Hid (G.objs.length ≤ 1048576) := HSM0.objs
    have H0 : Hid (k < G.objs.length) := hG0
    have HG1 : Hid (G.objs[k].live = true) := hG1
    have HO1 : Hid (o1 = { G.objs[k] with field := G.objs[k].field.set j o.c }) := ho1
    have HG3 : Hid (G.objs[k].field.length = 3) := hG3
    have HFR : Hid (∀ X (s1 : HSh), HM X V.heap.size s1 G → ∃ (hk2 : k < s1.os.length) (go gf : Nat), s1.oa = some ⟨go, 0, none⟩ ∧ V.heap.size ≤ go ∧ go < X.heap.size ∧ s1.os[k].f = some ⟨gf, 0, none⟩ ∧ s1.os[k].n = 3 ∧ V.heap.size ≤ gf ∧ gf < X.heap.size ∧ X.cell? ⟨gf, j, none⟩ = some (.int .i64 old) ∧ X.frozen? ⟨gf, j, none⟩ = false ∧ X.cell? ⟨go, k * 8, none⟩ = some (.bool true) ∧ X.cell? ⟨go, k * 8 + 6, none⟩ = some (.slice (some ⟨gf, 0, none⟩) 3 s1.os[k].c)) := by
      intro X s1 hX
      obtain ⟨go, e1, e2, e3⟩ := hm_own hX k hG0
      obtain ⟨hk2, e4, e5⟩ := hm_obj hX k hG0 go e1
      obtain ⟨gf, f1, f2, f3, f4, f5, f6⟩ := hm_frow hX k hG0 hk2 j hj3
      refine ⟨hk2, go, gf, e1, e2, e3, f1, by rw [f2, hG3], f3, f4, by rw [f5, hold], f6, by rw [e4.c0, hG1], ?_⟩
      rw [e4.c6, f1, f2, hG3]
    have CW : Hid (∀ X, _) := fun X => within_yes (j : Int) 0 2 X (by omega) (by omega)
    have HL5 : Hid (∀ X, Below V.heap.size V X → X.cell? ⟨wr.heap.size, 2, none⟩ = some (.int .i64 (j : Int))) := fun X hX => by rw [← hbj]; exact (F5.later hX).cell 2
    have HBJ : Hid (o.b = (j : Int)) := hbj
    rw [HR.out]
    generalize slotZ H o.c = zc at *
    clear hs hL LV F5 F3 BV HR nh hoa hob hoc k0 k1 k2 k3 k4 CN hno hbj hG hGg ho1 hold hof hG0 hG1 hG2 hG3 hj3 HSM0 HWF0 hw hlv hfl hkl ek hz CR
    first
      | (rw [hc] at hV l3; rw [hc]; have HCM : Hid (o.c = -1) := hc)
      | have HCM : Hid (o.c ≠ -1) := hc
    clear hc
    go_enter Try.func26, Try.ntmps26
    go_wp2
    rw [← hV]
    clear hV
    refine wp_region_later V (Below.refl _ _) (by kernel_rfl) (by kernel_rfl) ?_
    repeat (go_big_quiet_step (first
      | (go_at_call 44; refine (CS.out _).mono ?_; rintro e w2 ⟨rfl, b2⟩; exact ⟨rfl, LaterW.step _ b2⟩)))
    refine wpQuiet_nil ?_
    intro X hXe
    have hX : Below V.heap.size V X := by obtain ⟨n, hn⟩ := hXe; rw [hn]; exact n.bel
    clear hXe
    go_wp2
    refine wp_region_later V hX (by kernel_rfl) (by kernel_rfl) ?_
    repeat (go_big_quiet_step (first
      | (go_at_call 44; refine (CC.out _).mono ?_; rintro e w2 ⟨rfl, b2⟩; exact ⟨rfl, LaterW.step _ b2⟩)))
    refine wpQuiet_nil ?_
    clear hX
    intro X2 hXe
    have hX : Below V.heap.size V X2 := by obtain ⟨n, hn⟩ := hXe; rw [hn]; exact n.bel
    clear hXe y0 y1 y2 y3 l0 l1 l2 l3 hnel CS CC
    have kb := HL5.out X2 hX
    have HTX : Hid (Three X2 (wr.heap.size + 1) (.int .i64 0) (.int .i64 0) (.slice none 0 0)) := HT.out.later hX
    go_wp2_with fail
    refine (CW.out _).mono ?_
    rintro e w5 ⟨rfl, rfl⟩
    have HXX : Hid (∀ Y, Below w5.heap.size w5 Y → LS W Y B gx s H (.slice none 0 0) (.slice none 0 0) [] [] ∧ Five Y wr.heap.size o ∧ Three Y (wr.heap.size + 1) (.int .i64 0) (.int .i64 0) (.slice none 0 0)) := fun Y hY => ⟨ls_later HL.out (hX.trans (hY.mono hX.size)), H5.out.later (hX.trans (hY.mono hX.size)), HTX.out.later hY⟩
    have hXs := hX.size
    clear kb CW HL5 hd hd3
    go_wp2
    refine wp_region_last 8 (by kernel_rfl) (by kernel_rfl) (RP 6 (fun X v => ∃ s1 : HSh, v = s1.v ∧ HM X w5.heap.size s1 G) [.pointer (some ⟨gx, 0, none⟩), .pointer (some ⟨gx, 0, none⟩), .pointer (some ⟨gx, 0, none⟩), .agg #[.slice s.oa s.os.length s.oc, .slice s.wa s.wn s.wc, .slice s.ba s.bn s.bc, .slice s.sa s.sn s.sc], .pointer (some ⟨wr.heap.size, 3, none⟩), .int .i64 o.c, .nilFunc, .pointer (some ⟨gx, 0, none⟩)]) (rp_mono (fun X Y v h hb => by obtain ⟨s1, h1, h2⟩ := h; exact ⟨s1, h1, hm_later h2 hb⟩)) ?_ ?_
    · intro i o hi ho a X hX2 hA hdep
      match i, hi, ho with
      | 0, _, ho =>
        obtain rfl := Option.some.inj ho
        exact opMove (alike_at hA (t := 1) (by kernel_rfl))  ⟨_, rfl, Below.refl _ _, rp_put (by decide) rfl⟩
      | 1, _, ho =>
        obtain rfl := Option.some.inj ho
        exact opMove (alike_at hA (t := 1) (by kernel_rfl))  ⟨_, rfl, Below.refl _ _, rp_put (by decide) rfl⟩
      | 2, _, ho =>
        obtain rfl := Option.some.inj ho
        have g0_ : a.eval (.tmp 39) = .pointer (some ⟨gx, 0, none⟩) := rp_at (hdep ⟨1, .data⟩ (by simp) rfl 39 rfl) (by decide) rfl
        exact opNil g0_  ⟨_, rfl, Below.refl _ _, rp_put (by decide) rfl⟩
      | 3, _, ho =>
        obtain rfl := Option.some.inj ho
        have g0_ : a.eval (.tmp 40) = .pointer (some ⟨gx, 0, none⟩) := rp_at (hdep ⟨2, .data⟩ (by simp) rfl 40 rfl) (by decide) rfl
        exact opLoadHw g0_ (HXX.out X hX2).1.x ⟨_, rfl, Below.refl _ _, rp_put (by decide) rfl⟩
      | 4, _, ho =>
        obtain rfl := Option.some.inj ho
        exact opFieldOp 3 (by omega) (alike_at hA (t := 2) (by kernel_rfl))  ⟨_, rfl, Below.refl _ _, rp_put (by decide) rfl⟩
      | 5, _, ho =>
        obtain rfl := Option.some.inj ho
        have g0_ : a.eval (.tmp 42) = .pointer (some ⟨wr.heap.size, 3, none⟩) := rp_at (hdep ⟨4, .data⟩ (by simp) rfl 42 rfl) (by decide) rfl
        exact opLoadInt g0_ ((HXX.out X hX2).2.1.cell 3) ⟨_, rfl, Below.refl _ _, rp_put (by decide) rfl⟩
      | 6, _, ho =>
        obtain rfl := Option.some.inj ho
        have g0_ : a.eval (.tmp 41) = .agg #[.slice s.oa s.os.length s.oc, .slice s.wa s.wn s.wc, .slice s.ba s.bn s.bc, .slice s.sa s.sn s.sc] := rp_at (hdep ⟨3, .data⟩ (by simp) rfl 41 rfl) (by decide) rfl
        have g1_ : a.eval (.tmp 43) = .int .i64 o.c := rp_at (hdep ⟨5, .data⟩ (by simp) rfl 43 rfl) (by decide) rfl
        exact opGainI g0_ g1_ (HCG.out X (hm_rd (HXX.out X hX2).1.m)) (fun e w' ⟨s1, h1, h2, h3⟩ => ⟨s1.v, h1, s1.v, rfl, h3, rp_call ⟨s1, rfl, hm_mono h2 hX2.size⟩⟩)
      | 7, _, ho =>
        obtain rfl := Option.some.inj ho
        have g0_ : a.eval (.tmp 38) = .pointer (some ⟨gx, 0, none⟩) := rp_at (hdep ⟨0, .data⟩ (by simp) rfl 38 rfl) (by decide) rfl
        exact opNil g0_  ⟨_, rfl, Below.refl _ _, rp_put (by decide) rfl⟩
    · intro o ho a X hX2 hA hdep
      obtain rfl := Option.some.inj ho
      have g0_ : a.eval (.tmp 45) = .pointer (some ⟨gx, 0, none⟩) := rp_at (hdep ⟨7, .data⟩ (by simp) rfl 45 rfl) (by decide) rfl
      have g1_ := rp_p (hdep ⟨6, .data⟩ (by simp) rfl 44 rfl)
      obtain ⟨s1, hv1, M1⟩ := g1_
      rw [hsv] at hv1
      refine opStoreH g0_ hv1 (HXX.out X hX2).1.x ?_
      obtain ⟨us, hus, rfl⟩ := alike_tmps hA [38, 39, 40, 41, 42, 43, 44, 45] (by kernel_rfl)
      have L2 : LS W (setFour X gx (.slice s1.oa s1.os.length s1.oc) (.slice s1.wa s1.wn s1.wc) (.slice s1.ba s1.bn s1.bc) (.slice s1.sa s1.sn s1.sc)) B gx s1 G (.slice none 0 0) (.slice none 0 0) [] [] := ls_swap (HXX.out _ (Below.refl _ _)).1 hX2 M1 (ownI_nil _ _) (fun g hg => by simp [Value.ownBlock] at hg)
      have M2 : HM (setFour X gx (.slice s1.oa s1.os.length s1.oc) (.slice s1.wa s1.wn s1.wc) (.slice s1.ba s1.bn s1.bc) (.slice s1.sa s1.sn s1.sc)) w5.heap.size s1 G := hm_same M1 (by rw [setFour_size]; exact Nat.le_refl _) (fun g hg => setFour_other _ _ _ _ _ _ g (fun e => by have := (hm_bl M1 hg).1; omega))
      have T2 : Three (setFour X gx (.slice s1.oa s1.os.length s1.oc) (.slice s1.wa s1.wn s1.wc) (.slice s1.ba s1.bn s1.bc) (.slice s1.sa s1.sn s1.sc)) (wr.heap.size + 1) (.int .i64 0) (.int .i64 0) (.slice none 0 0) := (HXX.out X hX2).2.2.same (setFour_other _ _ _ _ _ _ _ hne)
      have K2 : Five (setFour X gx (.slice s1.oa s1.os.length s1.oc) (.slice s1.wa s1.wn s1.wc) (.slice s1.ba s1.bn s1.bc) (.slice s1.sa s1.sn s1.sc)) wr.heap.size o := (HXX.out X hX2).2.1.same (setFour_other _ _ _ _ _ _ _ (by omega))
      have hYs : X.heap.size = (setFour X gx (.slice s1.oa s1.os.length s1.oc) (.slice s1.wa s1.wn s1.wc) (.slice s1.ba s1.bn s1.bc) (.slice s1.sa s1.sn s1.sc)).heap.size := (setFour_size _ _ _ _ _ _).symm
      have hws := hX2.size
      simp only [List.mapIdx_cons, List.mapIdx_nil, Nat.reduceAdd, List.contains_cons, List.contains_nil, Nat.reduceBEq, Bool.or_false, Bool.or_true, if_true, if_false, Bool.false_eq_true]
      clear M1 HXX HCG HTX hdep hA hus ho hX hX2 g0_ hv1 H5
      generalize setFour X gx (.slice s1.oa s1.os.length s1.oc) (.slice s1.wa s1.wn s1.wc) (.slice s1.ba s1.bn s1.bc) (.slice s1.sa s1.sn s1.sc) = Y at *
      obtain ⟨hk2, go, gf, e1, e2, e3, f1, f2, f3, f4, f5, f6, f7, f8⟩ := HFR.out Y s1 (hm_mono M2 hXs)
      clear HFR
      have hlen : s1.os.length ≤ 1048576 := by rw [L2.m.lo]; exact HGO.out
      have CV : Hid (∀ _ : Unit, _) := fun (_ : Unit) => liveIn_at k s1.os.length s1.oc Y go s1.wa s1.wn s1.wc s1.ba s1.bn s1.bc s1.sa s1.sn s1.sc f7 hlen hk8 hk2
      obtain ⟨x0, x1, x2, x3⟩ := L2.x.cells
      rw [e1] at x0
      have HK2 : Hid (k < s1.os.length) := hk2
      have hsn : ¬ HasB s1 (wr.heap.size + 1) := hm_no M2 (.inl (by omega))
      have HSN : Hid (¬ HasB s1 (wr.heap.size + 1)) := hsn
      have hgg : ¬ gf = wr.heap.size + 1 := by omega
      have hgg2 : ¬ wr.heap.size + 1 = gf := by omega
      have HL2 : Hid (LS W Y B gx s1 G (.slice none 0 0) (.slice none 0 0) [] []) := L2
      have HT2 : Hid (Three Y (wr.heap.size + 1) (.int .i64 0) (.int .i64 0) (.slice none 0 0)) := T2
      have HK5 : Hid (Five Y wr.heap.size o) := K2
      have HF1 : Hid (s1.os[k].f = some ⟨gf, 0, none⟩) := f1
      have HYL : Hid (∀ Z, Below Y.heap.size Y Z → Z.cell? ⟨gf, j, none⟩ = some (.int .i64 old) ∧ Z.frozen? ⟨gf, j, none⟩ = false ∧ Z.cell? ⟨go, k * 8 + 6, none⟩ = some (.slice (some ⟨gf, 0, none⟩) 3 s1.os[k].c) ∧ Five Z wr.heap.size o) := fun Z hZ => ⟨(hZ.cell (p := ⟨gf, j, none⟩) f4).trans f5, (hZ.frozen (p := ⟨gf, j, none⟩) f4).trans f6, (hZ.cell (p := ⟨go, k * 8 + 6, none⟩) e3).trans f8, K2.later hZ⟩
      clear L2 M2 T2 K2 hk2 e1 f1 f2 hsn hlen f7 f5 f6 f8
      generalize s1.os[k].c = fcc at *
      go_wp2_with fail
      refine (CV.out ()).mono ?_
      rintro e w6 ⟨rfl, b6⟩
      clear CV x0 x1 x2 x3
      have q1_ : ∀ Z : LaterW w6, Z.on.cell? ⟨gf, j, none⟩ = some (.int .i64 old) := fun Z => (HYL.out _ (b6.trans (Z.bel.mono b6.size))).1
      have q2_ : ∀ Z : LaterW w6, Z.on.cell? ⟨go, k * 8 + 6, none⟩ = some (.slice (some ⟨gf, 0, none⟩) 3 fcc) := fun Z => (HYL.out _ (b6.trans (Z.bel.mono b6.size))).2.2.1
      have q3_ : ∀ Z : LaterW w6, Z.on.cell? ⟨wr.heap.size, 2, none⟩ = some (.int .i64 (j : Int)) := fun Z => by rw [← HBJ.out]; exact (HYL.out _ (b6.trans (Z.bel.mono b6.size))).2.2.2.cell 2
      have hnel := LaterW.some_ w6
      have hj0 : (0 : Int) ≤ (j : Int) := by omega
      have hj1 : (j : Int) < 3 := by omega
      have HB6 : Hid (Below Y.heap.size Y w6) := b6
      clear b6
      go_wp2
      refine wp_region_later w6 (Below.refl _ _) (by kernel_rfl) (by kernel_rfl) ?_
      repeat (go_big_quiet_step (fail))
      refine wpQuiet_nil ?_
      intro X3 hXe
      have hX3 : Below w6.heap.size w6 X3 := by obtain ⟨n, hn⟩ := hXe; rw [hn]; exact n.bel
      clear hXe q1_ q2_ q3_ hnel
      have HB7 : Hid (Below Y.heap.size Y X3) := HB6.out.trans (hX3.mono HB6.out.size)
      clear hX3 HB6
      go_wp2
      refine wp_region_last 9 (by kernel_rfl) (by kernel_rfl) (RP 1000 (noP) [.pointer (some ⟨go, k * 8, none⟩), .pointer (some ⟨go, k * 8, none⟩), .pointer (some ⟨go, k * 8 + 6, none⟩), .slice (some ⟨gf, 0, none⟩) 3 fcc, .pointer (some ⟨wr.heap.size, 2, none⟩), .int .i64 (j : Int), .pointer (some ⟨wr.heap.size, 3, none⟩), .int .i64 o.c, .pointer (some ⟨gf, j, none⟩)]) (rp_mono noP_mono) ?_ ?_
      · intro i o hi ho a X hX hA hdep
        match i, hi, ho with
        | 0, _, ho =>
          obtain rfl := Option.some.inj ho
          exact opMove (alike_at hA (t := 6) (by kernel_rfl))  ⟨_, rfl, Below.refl _ _, rp_put (by decide) rfl⟩
        | 1, _, ho =>
          obtain rfl := Option.some.inj ho
          have g0_ : a.eval (.tmp 59) = .pointer (some ⟨go, k * 8, none⟩) := rp_at (hdep ⟨0, .data⟩ (by simp) rfl 59 rfl) (by decide) rfl
          exact opNil g0_  ⟨_, rfl, Below.refl _ _, rp_put (by decide) rfl⟩
        | 2, _, ho =>
          obtain rfl := Option.some.inj ho
          have g0_ : a.eval (.tmp 60) = .pointer (some ⟨go, k * 8, none⟩) := rp_at (hdep ⟨1, .data⟩ (by simp) rfl 60 rfl) (by decide) rfl
          exact opFieldO6 g0_  ⟨_, rfl, Below.refl _ _, rp_put (by decide) rfl⟩
        | 3, _, ho =>
          obtain rfl := Option.some.inj ho
          have g0_ : a.eval (.tmp 61) = .pointer (some ⟨go, k * 8 + 6, none⟩) := rp_at (hdep ⟨2, .data⟩ (by simp) rfl 61 rfl) (by decide) rfl
          exact opLoadI g0_ (HYL.out X (HB7.out.trans (hX.mono HB7.out.size))).2.2.1 ⟨_, rfl, Below.refl _ _, rp_put (by decide) rfl⟩
        | 4, _, ho =>
          obtain rfl := Option.some.inj ho
          exact opFieldOp 2 (by omega) (alike_at hA (t := 2) (by kernel_rfl))  ⟨_, rfl, Below.refl _ _, rp_put (by decide) rfl⟩
        | 5, _, ho =>
          obtain rfl := Option.some.inj ho
          have g0_ : a.eval (.tmp 63) = .pointer (some ⟨wr.heap.size, 2, none⟩) := rp_at (hdep ⟨4, .data⟩ (by simp) rfl 63 rfl) (by decide) rfl
          exact opLoadInt g0_ (by rw [← HBJ.out]; exact (HYL.out X (HB7.out.trans (hX.mono HB7.out.size))).2.2.2.cell 2 : X.cell? ⟨wr.heap.size, 2, none⟩ = some (.int .i64 (j : Int))) ⟨_, rfl, Below.refl _ _, rp_put (by decide) rfl⟩
        | 6, _, ho =>
          obtain rfl := Option.some.inj ho
          exact opFieldOp 3 (by omega) (alike_at hA (t := 2) (by kernel_rfl))  ⟨_, rfl, Below.refl _ _, rp_put (by decide) rfl⟩
        | 7, _, ho =>
          obtain rfl := Option.some.inj ho
          have g0_ : a.eval (.tmp 65) = .pointer (some ⟨wr.heap.size, 3, none⟩) := rp_at (hdep ⟨6, .data⟩ (by simp) rfl 65 rfl) (by decide) rfl
          exact opLoadInt g0_ ((HYL.out X (HB7.out.trans (hX.mono HB7.out.size))).2.2.2.cell 3) ⟨_, rfl, Below.refl _ _, rp_put (by decide) rfl⟩
        | 8, _, ho =>
          obtain rfl := Option.some.inj ho
          have g0_ : a.eval (.tmp 62) = .slice (some ⟨gf, 0, none⟩) 3 fcc := rp_at (hdep ⟨3, .data⟩ (by simp) rfl 62 rfl) (by decide) rfl
          have g1_ : a.eval (.tmp 64) = .int .i64 (j : Int) := rp_at (hdep ⟨5, .data⟩ (by simp) rfl 64 rfl) (by decide) rfl
          exact opIndexI g0_ g1_ hj ⟨_, rfl, Below.refl _ _, rp_put (by decide) rfl⟩
      · intro o ho a X hX hA hdep
        obtain rfl := Option.some.inj ho
        have g0_ : a.eval (.tmp 67) = .pointer (some ⟨gf, j, none⟩) := rp_at (hdep ⟨8, .data⟩ (by simp) rfl 67 rfl) (by decide) rfl
        have g1_ : a.eval (.tmp 66) = .int .i64 o.c := rp_at (hdep ⟨7, .data⟩ (by simp) rfl 66 rfl) (by decide) rfl
        refine opStoreInt g0_ g1_ (HYL.out X (HB7.out.trans (hX.mono HB7.out.size))).1 (HYL.out X (HB7.out.trans (hX.mono HB7.out.size))).2.1 ?_
        obtain ⟨us, hus, rfl⟩ := alike_tmps hA [59, 60, 61, 62, 63, 64, 65, 66, 67] (by kernel_rfl)
        simp only [List.mapIdx_cons, List.mapIdx_nil, Nat.reduceAdd, List.contains_cons, List.contains_nil, Nat.reduceBEq, Bool.or_false, Bool.or_true, if_true, if_false, Bool.false_eq_true]
        have hB8 := HB7.out.trans (hX.mono HB7.out.size)
        obtain ⟨w1, hw1⟩ : ∃ w1, w1 = X.setCell ⟨gf, j, none⟩ (.int .i64 o.c) := ⟨_, rfl⟩
        have HL9 : Hid (LS W w1 B gx s1 (setO G k o1) (.slice none 0 0) (.slice none 0 0) [] []) := by rw [hw1]; exact ls_field (ls_later HL2.out hB8) k H0.out HK2.out gf HF1.out j o.c o1 HO1.out
        have s1w : w1.heap.size = X.heap.size := by rw [hw1]; simp [World.setCell]
        have hws8 := hB8.size
        have HT9 : Hid (Three w1 (wr.heap.size + 1) (.int .i64 0) (.int .i64 0) (.slice none 0 0)) := by
          rw [hw1]
          exact (HT2.out.later hB8).same (heap_setCell_other _ _ _ _ (by exact hgg2))
        have CLS : Hid (∀ _ : Unit, _) := fun (_ : Unit) => loses_calls W w1 B gx s1 (setO G k o1) old HL9.out HSM.out HWF.out HOLD.out
        rw [← hw1]
        clear hw1 hB8 hX hdep hA hus ho g0_ g1_ HYL HB7 HL2 HT2 HK5 HF1 HSM HWF HOLD HO1 HG1 HG3 HK2 HGO H0 HBJ HL HT
        go_wp2_with fail
        refine (CLS.out ()).mono ?_
        rintro e w2 ⟨s2, fa, fc, rfl, L2, hS2, hF2, hfr, hsz⟩
        have T2 : Three w2 (wr.heap.size + 1) (.int .i64 0) (.int .i64 0) (.slice none 0 0) := HT9.out.same (hfr _ (by omega) hne)
        obtain ⟨q0, q1, q2⟩ := T2.cells
        obtain ⟨z0, z1, z2⟩ := T2.frees
        have hsn : ¬ HasB s2 (wr.heap.size + 1) := fun hh => by have := hS2 _ hh; omega
        have hfn : (Value.slice fa (loseR (setO G k o1) [old]).2.length fc).ownBlock ≠ some (wr.heap.size + 1) := fun e => by have := hF2 _ e; omega
        have HX : Hid (ImplPost W B gx (lostR (setO G k o1) old) (.returned (ansV 0 0 (.slice fa (loseR (setO G k o1) [old]).2.length fc))) (setThree w2 (wr.heap.size + 1) (.int .i64 0) (.int .i64 0) (.slice fa (loseR (setO G k o1) [old]).2.length fc))) := ls_end (w := wr) (wr.heap.size + 1) 0 0 L2 (by omega) hsn hne hfn (.int .i64 0) (.int .i64 0) (.slice fa (loseR (setO G k o1) [old]).2.length fc)
        rw [show ansV 0 0 (.slice fa (loseR (setO G k o1) [old]).2.length fc) = .agg #[.int .i64 0, .int .i64 0, .slice fa (loseR (setO G k o1) [old]).2.length fc] from rfl]
        clear hsn hfn T2 HT9 HL9 CLS L2 hS2 hF2 hfr HSN HCM HE
        unfold setThree at HX
        go_wp2
        exact bodyPost_ret (v := ansV 0 0 (.slice fa (loseR (setO G k o1) [old]).2.length fc)) (by simp [results, Try.results26, go_sem, ansV, *]) rfl HX.out

end Go.Proofs.Ytjhdnachbahbmaa

namespace Go.Proofs.Ytjhdnachbahbmaa
open Go.RowKit
set_option linter.unusedVariables false
set_option maxRecDepth 100000

theorem Four.set3 {X : World} {g : Nat} {x0 x1 x2 x3 : Value} (h : Four X g x0 x1 x2 x3) (u : Value) : Four (X.setCell ⟨g, 3, none⟩ u) g x0 x1 x2 u := heap_setCell_same X g 3 _ _ u h
/-- The names are others, and is put into the variable. -/
theorem ls_names {W wr w1 : World} {B gx : Nat} {s : HSh} {H : HeapD} {vq vf : Value} {todo fr : List Int} (h : LS W wr B gx s H vq vf todo fr) (hb : Below B W w1) (hsz : wr.heap.size ≤ w1.heap.size) (oth : ∀ i, i < wr.heap.size → (Value.slice s.sa s.sn s.sc).ownBlock ≠ some i → w1.heap[i]? = wr.heap[i]?) (sa : Option Addr) (sn sc : Nat) (Z : List (List UInt8)) (hn : sn = Z.length) (hz : ownS w1 B (.slice sa sn sc) Z)
    (hl : ∀ g, (Value.slice sa sn sc).ownBlock = some g → (Value.slice s.sa s.sn s.sc).ownBlock = some g ∨ wr.heap.size ≤ g) : LS W (w1.setCell ⟨gx, 3, none⟩ (.slice sa sn sc)) B gx { s with sa := sa, sn := sn, sc := sc } { H with sites := Z } vq vf todo fr := by
  have old : ∀ g, HasN s g → (Value.slice s.sa s.sn s.sc).ownBlock ≠ some g := fun g hg e => by
    obtain ⟨x, hx, e2⟩ := own_some e
    exact hm_ndif h.m hg x hx e2
  have new : ∀ x, sa = some x → (∃ y, s.sa = some y ∧ y.block = x.block) ∨ wr.heap.size ≤ x.block := fun x hx => by
    rcases hl _ (own_block hx) with e | e
    · obtain ⟨y, hy, e2⟩ := own_some e
      exact .inl ⟨y, hy, e2⟩
    · exact .inr e
  have bk : ∀ x, s.sa = some x → HasB s x.block := fun x hx => .inr (.inr (.inr (.inl ⟨x, hx, rfl⟩)))
  have hx1 : w1.heap[gx]? = wr.heap[gx]? := oth gx h.x.lt (fun e => by obtain ⟨x, hx, e2⟩ := own_some e; exact h.sx (by rw [← e2]; exact bk x hx))
  have x1 := h.x.same hx1
  have oth2 : ∀ i, i ≠ gx → (w1.setCell ⟨gx, 3, none⟩ (.slice sa sn sc)).heap[i]? = w1.heap[i]? := fun i hi => heap_setCell_other _ _ _ _ (by exact hi)
  have m1 : HM w1 B { s with sa := sa, sn := sn, sc := sc } { H with sites := Z } := hm_names h.m hsz (fun g hg => oth g (hm_bl h.m hg.has).2 (old g hg)) sa sn sc Z hn hz (fun x hx hh => by
    rcases new x hx with ⟨y, hy, e⟩ | e
    · exact hm_ndif h.m hh y hy e
    · have := (hm_bl h.m hh.has).2; omega)
  have sx' : ¬ HasB { s with sa := sa, sn := sn, sc := sc } gx := fun hh => by
    rcases hasB_names hh with h1 | ⟨x, hx, e⟩
    · exact h.sx h1.has
    · rcases new x hx with ⟨y, hy, e2⟩ | e2
      · exact h.sx (by rw [← e, ← e2]; exact bk y hy)
      · have := h.x.lt; omega
  have apart : ∀ {g : Nat}, g < wr.heap.size → ¬ HasB s g → ¬ HasB { s with sa := sa, sn := sn, sc := sc } g := fun hg hn hh => by
    rcases hasB_names hh with h1 | ⟨x, hx, e⟩
    · exact hn h1.has
    · rcases new x hx with ⟨y, hy, e2⟩ | e2
      · exact hn (by rw [← e, ← e2]; exact bk y hy)
      · omega
  have nb : ∀ g, ¬ HasB s g → (Value.slice s.sa s.sn s.sc).ownBlock ≠ some g := fun g hn e => by obtain ⟨x, hx, e2⟩ := own_some e; exact hn (by rw [← e2]; exact bk x hx)
  refine ⟨hb.setCell h.gB _, h.hB, ?_, x1.set3 _, h.gB, sx', ?_, ?_, fun g hg => apart (ownQ_lt h.q g hg).2 (h.sq g hg), fun g hg => apart (ownI_lt h.f g hg).2 (h.sf g hg), h.qf⟩
  · exact hm_same m1 (by simp [World.setCell]) (fun g hg => oth2 g (fun e => sx' (by rw [← e]; exact hg)))
  · exact ownQ_same h.q (fun g hg => (oth2 g (h.qx g hg)).trans (oth g (ownQ_lt h.q g hg).2 (nb g (h.sq g hg))))
  · exact ownI_same h.f (fun g hg => (oth2 g (h.fx g hg)).trans (oth g (ownI_lt h.f g hg).2 (nb g (h.sf g hg))))

theorem hm_live {w : World} {B : Nat} {s : HSh} {H : HeapD} (h : HM w B s H) (k : Nat) (hk : k < H.objs.length) (g : Nat) (hg : s.oa = some ⟨g, 0, none⟩) (z : Bool) : HM (w.setCell ⟨g, k * 8, none⟩ (.bool z)) B s (setO H k { H.objs[k] with live := z }) :=
  hm_cell h k hk g hg 0 (.bool z) (by omega) _ rfl (fun f ho =>
    ⟨World.cell?_setCell_same w _ _ ho.c0, by rw [cell_far _ _ _ _ _ (by omega)]; exact ho.c1, by rw [cell_far _ _ _ _ _ (by omega)]; exact ho.c2, by rw [cell_far _ _ _ _ _ (by omega)]; exact ho.c3, by rw [cell_far _ _ _ _ _ (by omega)]; exact ho.c4,
     by rw [cell_far _ _ _ _ _ (by omega)]; exact ho.c5, by rw [cell_far _ _ _ _ _ (by omega)]; exact ho.c6, by rw [cell_far _ _ _ _ _ (by omega)]; exact ho.c7⟩)
theorem hm_site2 {w : World} {B : Nat} {s : HSh} {H : HeapD} (h : HM w B s H) (k : Nat) (hk : k < H.objs.length) (g : Nat) (hg : s.oa = some ⟨g, 0, none⟩) (z : Int) : HM (w.setCell ⟨g, k * 8 + 2, none⟩ (.int .i64 z)) B s (setO H k { H.objs[k] with site := z }) :=
  hm_cell h k hk g hg 2 (.int .i64 z) (by omega) _ rfl (fun f ho =>
    ⟨by rw [cell_far _ _ _ _ _ (by omega)]; exact ho.c0, by rw [cell_far _ _ _ _ _ (by omega)]; exact ho.c1, World.cell?_setCell_same w _ _ ho.c2, by rw [cell_far _ _ _ _ _ (by omega)]; exact ho.c3, by rw [cell_far _ _ _ _ _ (by omega)]; exact ho.c4,
     by rw [cell_far _ _ _ _ _ (by omega)]; exact ho.c5, by rw [cell_far _ _ _ _ _ (by omega)]; exact ho.c6, by rw [cell_far _ _ _ _ _ (by omega)]; exact ho.c7⟩)
theorem setO_len (H : HeapD) (k : Nat) (o : ObjD) : (setO H k o).objs.length = H.objs.length := by simp [setO]
theorem setO_get {H : HeapD} {k : Nat} (o : ObjD) (h : k < (setO H k o).objs.length) : (setO H k o).objs[k] = o := by simp [setO]
theorem setO_set (H : HeapD) (k : Nat) (o p : ObjD) : setO (setO H k o) k p = setO H k p := by simp [setO]
/-- A new object's five cells, one behind the other. -/
theorem ls_made {W w1 wr : World} {B gx : Nat} {s : HSh} {H : HeapD} (h : LS W wr B gx s H (.slice none 0 0) (.slice none 0 0) [] []) (b1 : Below wr.heap.size wr w1) (k : Nat) (hk : k < H.objs.length) (go : Nat) (hgo : s.oa = some ⟨go, 0, none⟩) (gen m : Int) (f : Option Addr) (c : Nat) (hf : ownI w1 wr.heap.size (.slice f 3 c) [-1, -1, -1]) :
    LS W (((((setObj w1 go (k * 8) (emptyD gen) (.slice f 3 c)).setCell ⟨go, k * 8, none⟩ (.bool true)).setCell ⟨go, k * 8 + 2, none⟩ (.int .i64 m)).setCell ⟨go, k * 8 + 3, none⟩ (.int .i64 1)).setCell ⟨go, k * 8 + 5, none⟩ (.int .i64 1)) B gx { s with os := s.os.set k ⟨f, 3, c⟩ } (setO H k (madeO gen m)) (.slice none 0 0) (.slice none 0 0) [] [] := by
  have h0 := ls_put h b1 k hk go hgo (emptyD gen) f c hf
  have l0 : k < (setO H k (emptyD gen)).objs.length := by rw [setO_len]; exact hk
  have hg0 : ({ s with os := s.os.set k ⟨f, 3, c⟩ } : HSh).oa = some ⟨go, 0, none⟩ := hgo
  have h1 := ls_obj h0 go (k * 8) (.bool true) hg0 (hm_live h0.m k l0 go hg0 true)
  rw [setO_get _ l0, setO_set] at h1
  have l1 : k < (setO H k { emptyD gen with live := true }).objs.length := by rw [setO_len]; exact hk
  have h2 := ls_obj h1 go (k * 8 + 2) (.int .i64 m) hg0 (hm_site2 h1.m k l1 go hg0 m)
  rw [setO_get _ l1, setO_set] at h2
  have l2 : k < (setO H k { emptyD gen with live := true, site := m }).objs.length := by rw [setO_len]; exact hk
  have h3 := ls_obj h2 go (k * 8 + 3) (.int .i64 1) hg0 (hm_holds h2.m k l2 go hg0 1)
  rw [setO_get _ l2, setO_set] at h3
  have l3 : k < (setO H k { emptyD gen with live := true, site := m, holds := 1 }).objs.length := by rw [setO_len]; exact hk
  have h4 := ls_obj h3 go (k * 8 + 5) (.int .i64 1) hg0 (hm_count h3.m k l3 go hg0 1)
  rw [setO_get _ l3] at h4
  have e : ({ (setO H k { emptyD gen with live := true, site := m, holds := 1 }) with objs := (setO H k { emptyD gen with live := true, site := m, holds := 1 }).objs.set k { ({ emptyD gen with live := true, site := m, holds := 1 } : ObjD) with count := 1 } } : HeapD) = setO H k (madeO gen m) := by
    show setO (setO H k _) k _ = _
    rw [setO_set]
    rfl
  rw [e] at h4
  exact h4
set_option maxHeartbeats 4000000 in
theorem opAlloc_1 (W wr : World) (B gx : Nat) (s : HSh) (H : HeapD) (o : OpD) (hL : LS W wr B gx s H (.slice none 0 0) (.slice none 0 0) [] []) (hs : SmallH H) (hsl : o.site.length ≤ 1048576) (hl : o.site.length < 1 ∨ 8 < o.site.length) :
    Calls Try.prog 24 #[opV o, .pointer (some ⟨gx, 0, none⟩)] wr fun e w' => ImplPost W B gx (allocR H o.site) e w' := by
  obtain ⟨V, hV, BV, sV, F5, F3⟩ := entry2 wr o
  have LV : LS W V B gx s H (.slice none 0 0) (.slice none 0 0) [] [] := ls_later hL BV
  have hgx := hL.x.lt
  have hle := hL.le
  have nh : ¬ HasB s (wr.heap.size + 1) := hm_no hL.m (.inr (by omega))
  have hne : wr.heap.size + 1 ≠ gx := by omega
  have HE : Hid (∀ X H2 c v y0 y1 y2, LS W X B gx s H2 (.slice none 0 0) (.slice none 0 0) [] [] → ImplPost W B gx (H2, ⟨c, v, []⟩) (.returned (ansV c v (.slice none 0 0))) (setThree X (wr.heap.size + 1) y0 y1 y2)) := fun X H2 c v y0 y1 y2 hX => ls_end (w := wr) (wr.heap.size + 1) c v hX (by omega) nh hne (by simp [Value.ownBlock]) y0 y1 y2
  have HT : Hid (Three V (wr.heap.size + 1) (.int .i64 0) (.int .i64 0) (.slice none 0 0)) := F3
  have HL : Hid (LS W V B gx s H (.slice none 0 0) (.slice none 0 0) [] []) := LV
  have CR : Hid (∀ c X, _) := fun c X => refused_calls c X
  unfold opV
  obtain ⟨k0, k1, k2, k3, k4⟩ := F5.cells
  have CW : Hid (∀ X, _) := fun X => within_no ((txt o.site).size : Int) 1 8 X (by rw [txt_size]; omega)
  have HR : Hid (allocR H o.site = (H, ⟨2, 0, []⟩)) := by show _ = _; unfold allocR; rw [if_pos hl]; rfl
  rw [HR.out]
  clear hs hL LV F5 F3 BV HR nh hl hsl
  go_enter Try.func24, Try.ntmps24
  go_wp2_with fail
  rw [← hV]
  clear hV
  refine (CW.out _).mono ?_
  rintro e w5 ⟨rfl, rfl⟩
  go_wp2_with fail
  refine (CR.out 2 _).mono ?_
  rintro e w2 ⟨rfl, b2⟩
  have T2 := HT.out.later b2
  obtain ⟨q0, q1, q2⟩ := T2.cells
  obtain ⟨z0, z1, z2⟩ := T2.frees
  have HX : Hid _ := HE.out w2 _ 2 0 (.int .i64 2) (.int .i64 0) (.slice none 0 0) (ls_later HL.out b2)
  rw [show ansV 2 0 (.slice none 0 0) = .agg #[.int .i64 2, .int .i64 0, .slice none 0 0] from rfl]
  clear T2 HE HL HT CR b2 k0 k1 k2 k3 k4 CW
  go_wp2
  exact bodyPost_ret (v := ansV 2 0 (.slice none 0 0)) (by simp [results, Try.results24, go_sem, ansV, *]) rfl HX.out

set_option maxHeartbeats 4000000 in
theorem opAlloc_2 (W wr : World) (B gx : Nat) (s : HSh) (H : HeapD) (o : OpD) (hL : LS W wr B gx s H (.slice none 0 0) (.slice none 0 0) [] []) (hs : SmallH H) (hsl : o.site.length ≤ 1048576) (hl : 1 ≤ o.site.length ∧ o.site.length ≤ 8) (hfz : freeZ H < 0) :
    Calls Try.prog 24 #[opV o, .pointer (some ⟨gx, 0, none⟩)] wr fun e w' => ImplPost W B gx (allocR H o.site) e w' := by
  obtain ⟨V, hV, BV, sV, F5, F3⟩ := entry2 wr o
  have LV : LS W V B gx s H (.slice none 0 0) (.slice none 0 0) [] [] := ls_later hL BV
  have hgx := hL.x.lt
  have hle := hL.le
  have nh : ¬ HasB s (wr.heap.size + 1) := hm_no hL.m (.inr (by omega))
  have hne : wr.heap.size + 1 ≠ gx := by omega
  have HE : Hid (∀ X H2 c v y0 y1 y2, LS W X B gx s H2 (.slice none 0 0) (.slice none 0 0) [] [] → ImplPost W B gx (H2, ⟨c, v, []⟩) (.returned (ansV c v (.slice none 0 0))) (setThree X (wr.heap.size + 1) y0 y1 y2)) := fun X H2 c v y0 y1 y2 hX => ls_end (w := wr) (wr.heap.size + 1) c v hX (by omega) nh hne (by simp [Value.ownBlock]) y0 y1 y2
  have HT : Hid (Three V (wr.heap.size + 1) (.int .i64 0) (.int .i64 0) (.slice none 0 0)) := F3
  have HL : Hid (LS W V B gx s H (.slice none 0 0) (.slice none 0 0) [] []) := LV
  have CR : Hid (∀ c X, _) := fun c X => refused_calls c X
  unfold opV
  obtain ⟨k0, k1, k2, k3, k4⟩ := F5.cells
  have CW : Hid (∀ X, _) := fun X => within_yes ((txt o.site).size : Int) 1 8 X (by rw [txt_size]; omega) (by rw [txt_size]; omega)
  have CFR : Hid (∀ _ : Unit, _) := fun (_ : Unit) => iFreeSlot_calls s.v H V (hm_rd LV.m) hs
  rw [hsv] at CFR
  obtain ⟨x0, x1, x2, x3⟩ := LV.x.cells
  have HR : Hid (allocR H o.site = (H, ⟨3, 0, []⟩)) := by show _ = _; unfold allocR; rw [if_neg (by omega), if_pos hfz]; rfl
  rw [HR.out]
  generalize freeZ H = fz at *
  clear hs hL LV F5 F3 BV HR nh hl hsl
  go_enter Try.func24, Try.ntmps24
  go_wp2_with fail
  rw [← hV]
  clear hV
  refine (CW.out _).mono ?_
  rintro e w5 ⟨rfl, rfl⟩
  go_wp2_with fail
  refine (CFR.out ()).mono ?_
  rintro e w3 ⟨rfl, b3⟩
  go_wp2_with fail
  refine (CR.out 3 _).mono ?_
  rintro e w2 ⟨rfl, b2⟩
  have T2 := (HT.out.later b3).later b2
  obtain ⟨q0, q1, q2⟩ := T2.cells
  obtain ⟨z0, z1, z2⟩ := T2.frees
  have HX : Hid _ := HE.out w2 _ 3 0 (.int .i64 3) (.int .i64 0) (.slice none 0 0) (ls_later (ls_later HL.out b3) b2)
  rw [show ansV 3 0 (.slice none 0 0) = .agg #[.int .i64 3, .int .i64 0, .slice none 0 0] from rfl]
  clear T2 HE HL HT CR b2 k0 k1 k2 k3 k4 CW CFR x0 x1 x2 x3 b3
  go_wp2
  exact bodyPost_ret (v := ansV 3 0 (.slice none 0 0)) (by simp [results, Try.results24, go_sem, ansV, *]) rfl HX.out

set_option maxHeartbeats 4000000 in
theorem opAlloc_3 (W wr : World) (B gx : Nat) (s : HSh) (H : HeapD) (o : OpD) (hL : LS W wr B gx s H (.slice none 0 0) (.slice none 0 0) [] []) (hs : SmallH H) (hsl : o.site.length ≤ 1048576) (hl : 1 ≤ o.site.length ∧ o.site.length ≤ 8) (k : Nat) (hkl : k < H.objs.length) (hk8 : k < 8) (ekf : freeZ H = (k : Int)) (h6 : H.sites.length ≤ 6) (hgen : 0 ≤ H.objs[k].gen ∧ H.objs[k].gen < 999) (hsz : siteZ H o.site < 0) (hfull : H.sites.length = 6) :
    Calls Try.prog 24 #[opV o, .pointer (some ⟨gx, 0, none⟩)] wr fun e w' => ImplPost W B gx (allocR H o.site) e w' := by
  obtain ⟨V, hV, BV, sV, F5, F3⟩ := entry2 wr o
  have LV : LS W V B gx s H (.slice none 0 0) (.slice none 0 0) [] [] := ls_later hL BV
  have hgx := hL.x.lt
  have hle := hL.le
  have nh : ¬ HasB s (wr.heap.size + 1) := hm_no hL.m (.inr (by omega))
  have hne : wr.heap.size + 1 ≠ gx := by omega
  have HE : Hid (∀ X H2 c v y0 y1 y2, LS W X B gx s H2 (.slice none 0 0) (.slice none 0 0) [] [] → ImplPost W B gx (H2, ⟨c, v, []⟩) (.returned (ansV c v (.slice none 0 0))) (setThree X (wr.heap.size + 1) y0 y1 y2)) := fun X H2 c v y0 y1 y2 hX => ls_end (w := wr) (wr.heap.size + 1) c v hX (by omega) nh hne (by simp [Value.ownBlock]) y0 y1 y2
  have HT : Hid (Three V (wr.heap.size + 1) (.int .i64 0) (.int .i64 0) (.slice none 0 0)) := F3
  have HL : Hid (LS W V B gx s H (.slice none 0 0) (.slice none 0 0) [] []) := LV
  have CR : Hid (∀ c X, _) := fun c X => refused_calls c X
  unfold opV
  obtain ⟨k0, k1, k2, k3, k4⟩ := F5.cells
  have CW : Hid (∀ X, _) := fun X => within_yes ((txt o.site).size : Int) 1 8 X (by rw [txt_size]; omega) (by rw [txt_size]; omega)
  have CFR : Hid (∀ _ : Unit, _) := fun (_ : Unit) => iFreeSlot_calls s.v H V (hm_rd LV.m) hs
  rw [hsv] at CFR
  obtain ⟨x0, x1, x2, x3⟩ := LV.x.cells
  have HSN : Hid (s.sn = H.sites.length) := LV.m.ls
  have HRS : Hid (∀ X, Below V.heap.size V X → RdS X s.sa H.sites) := fun X hX => (hm_parts (hm_later LV.m hX)).2.2.2
  have HQ : Hid (∀ X, Below V.heap.size V X → X.cell? ⟨gx, 3, none⟩ = some (.slice s.sa s.sn s.sc) ∧ X.cell? ⟨wr.heap.size, 4, none⟩ = some (.string (txt o.site))) := fun X hX => ⟨(LV.x.later hX).cell 3, (F5.later hX).cell 4⟩
  have CI0 : Hid (∀ X, Below V.heap.size V X → _) := fun X hX => idxStr_calls X s.sa s.sc H.sites o.site (HRS.out X hX) (by have := hs.sites; omega)
  rw [← HSN.out] at CI0
  have hsn6 : s.sn ≤ 6 := by rw [HSN.out]; exact h6
  have HR : Hid (allocR H o.site = (H, ⟨6, 0, []⟩)) := by show _ = _; unfold allocR; rw [if_neg (by omega), if_neg (by omega), if_pos ⟨hsz, by omega⟩]; rfl
  rw [HR.out]
  rw [ekf] at CFR
  have hq6 : s.sn = 6 := by rw [HSN.out]; exact hfull
  rw [hq6] at HQ CI0 x3
  rw [hq6] at CFR
  unfold siteZ at hsz
  generalize idxL o.site H.sites 0 = z at *
  clear hs hL LV F5 F3 BV HR nh hl hsl hgen ekf hfull k0 k1 k2 k3
  go_enter Try.func24, Try.ntmps24
  go_wp2_with fail
  rw [← hV]
  clear hV
  refine (CW.out _).mono ?_
  rintro e w5 ⟨rfl, rfl⟩
  go_wp2_with fail
  refine (CFR.out ()).mono ?_
  rintro e w3 ⟨rfl, b3⟩
  clear x0 x1 x2 x3 CFR CW
  have CI : Hid (∀ X : LaterW w3, _) := fun X => CI0.out X.on (b3.trans (X.bel.mono b3.size))
  have y1 : ∀ X : LaterW w3, X.on.cell? ⟨gx, 3, none⟩ = some (.slice s.sa 6 s.sc) := fun X => (HQ.out X.on (b3.trans (X.bel.mono b3.size))).1
  have y2 : ∀ X : LaterW w3, X.on.cell? ⟨wr.heap.size, 4, none⟩ = some (.string (txt o.site)) := fun X => (HQ.out X.on (b3.trans (X.bel.mono b3.size))).2
  have hnel := LaterW.some_ w3
  go_wp2
  refine wp_region_later w3 (Below.refl _ _) (by kernel_rfl) (by kernel_rfl) ?_
  repeat (go_big_quiet_step (first
    | (go_at_call 41; refine (CI.out _).mono ?_; rintro e w2 ⟨rfl, hw2⟩; subst hw2; exact ⟨rfl, LaterW.step _ (Below.refl _ _)⟩)))
  refine wpQuiet_nil ?_
  intro X hXe
  have hX3 : Below w3.heap.size w3 X := by obtain ⟨n, hn⟩ := hXe; rw [hn]; exact n.bel
  have hX := b3.trans (hX3.mono b3.size)
  clear hXe y1 y2 hnel CI CI0 hX3 b3
  have HTX : Hid (Three X (wr.heap.size + 1) (.int .i64 0) (.int .i64 0) (.slice none 0 0)) := HT.out.later hX
  obtain ⟨xq, -⟩ := HQ.out X hX
  go_wp2_with fail
  refine (CR.out 6 _).mono ?_
  rintro e w2 ⟨rfl, b2⟩
  have T2 := HTX.out.later b2
  obtain ⟨q0, q1, q2⟩ := T2.cells
  obtain ⟨z0, z1, z2⟩ := T2.frees
  have HX : Hid _ := HE.out w2 _ 6 0 (.int .i64 6) (.int .i64 0) (.slice none 0 0) (ls_later (ls_later HL.out hX) b2)
  rw [show ansV 6 0 (.slice none 0 0) = .agg #[.int .i64 6, .int .i64 0, .slice none 0 0] from rfl]
  clear T2 HE HL HT CR b2 HTX hX HQ HRS HSN xq k4 
  go_wp2
  exact bodyPost_ret (v := ansV 6 0 (.slice none 0 0)) (by simp [results, Try.results24, go_sem, ansV, *]) rfl HX.out

set_option maxHeartbeats 4000000 in
theorem opAlloc_5 (W wr : World) (B gx : Nat) (s : HSh) (H : HeapD) (o : OpD) (hL : LS W wr B gx s H (.slice none 0 0) (.slice none 0 0) [] []) (hs : SmallH H) (hsl : o.site.length ≤ 1048576) (hl : 1 ≤ o.site.length ∧ o.site.length ≤ 8) (k : Nat) (hkl : k < H.objs.length) (hk8 : k < 8) (ekf : freeZ H = (k : Int)) (h6 : H.sites.length ≤ 6) (hgen : 0 ≤ H.objs[k].gen ∧ H.objs[k].gen < 999) (hsz : 0 ≤ siteZ H o.site) :
    Calls Try.prog 24 #[opV o, .pointer (some ⟨gx, 0, none⟩)] wr fun e w' => ImplPost W B gx (allocR H o.site) e w' := by
  obtain ⟨V, hV, BV, sV, F5, F3⟩ := entry2 wr o
  have LV : LS W V B gx s H (.slice none 0 0) (.slice none 0 0) [] [] := ls_later hL BV
  have hgx := hL.x.lt
  have hle := hL.le
  have nh : ¬ HasB s (wr.heap.size + 1) := hm_no hL.m (.inr (by omega))
  have hne : wr.heap.size + 1 ≠ gx := by omega
  have HE : Hid (∀ X H2 c v y0 y1 y2, LS W X B gx s H2 (.slice none 0 0) (.slice none 0 0) [] [] → ImplPost W B gx (H2, ⟨c, v, []⟩) (.returned (ansV c v (.slice none 0 0))) (setThree X (wr.heap.size + 1) y0 y1 y2)) := fun X H2 c v y0 y1 y2 hX => ls_end (w := wr) (wr.heap.size + 1) c v hX (by omega) nh hne (by simp [Value.ownBlock]) y0 y1 y2
  have HT : Hid (Three V (wr.heap.size + 1) (.int .i64 0) (.int .i64 0) (.slice none 0 0)) := F3
  have HL : Hid (LS W V B gx s H (.slice none 0 0) (.slice none 0 0) [] []) := LV
  have CR : Hid (∀ c X, _) := fun c X => refused_calls c X
  unfold opV
  obtain ⟨k0, k1, k2, k3, k4⟩ := F5.cells
  have CW : Hid (∀ X, _) := fun X => within_yes ((txt o.site).size : Int) 1 8 X (by rw [txt_size]; omega) (by rw [txt_size]; omega)
  have CFR : Hid (∀ _ : Unit, _) := fun (_ : Unit) => iFreeSlot_calls s.v H V (hm_rd LV.m) hs
  rw [hsv] at CFR
  obtain ⟨x0, x1, x2, x3⟩ := LV.x.cells
  have HSN : Hid (s.sn = H.sites.length) := LV.m.ls
  have HRS : Hid (∀ X, Below V.heap.size V X → RdS X s.sa H.sites) := fun X hX => (hm_parts (hm_later LV.m hX)).2.2.2
  have HQ : Hid (∀ X, Below V.heap.size V X → X.cell? ⟨gx, 3, none⟩ = some (.slice s.sa s.sn s.sc) ∧ X.cell? ⟨wr.heap.size, 4, none⟩ = some (.string (txt o.site))) := fun X hX => ⟨(LV.x.later hX).cell 3, (F5.later hX).cell 4⟩
  have CI0 : Hid (∀ X, Below V.heap.size V X → _) := fun X hX => idxStr_calls X s.sa s.sc H.sites o.site (HRS.out X hX) (by have := hs.sites; omega)
  rw [← HSN.out] at CI0
  have hsn6 : s.sn ≤ 6 := by rw [HSN.out]; exact h6
  obtain ⟨go, hgo, hgB, hgl⟩ := hm_own LV.m k hkl
  have hgn : go < wr.heap.size := (hm_bl hL.m (.inl ⟨_, hgo, rfl⟩)).2
  have hg3 : ¬ go = wr.heap.size + 1 := by omega
  have hg4 : ¬ wr.heap.size + 1 = go := by omega
  have hget : H.objs[(freeZ H).toNat]? = some H.objs[k] := by rw [ekf, Int.toNat_natCast, List.getElem?_eq_getElem hkl]
  obtain ⟨gen, hge⟩ : ∃ gen, H.objs[k].gen = gen := ⟨_, rfl⟩
  have CE : Hid (∀ X, _) := fun X => emptyObj_calls (gen + 1) X
  have CID : Hid (∀ X, _) := fun X => iIdOf_calls (k : Int) (gen + 1) X
  obtain ⟨m, hm⟩ : ∃ m, siteZ H o.site = m := ⟨_, rfl⟩
  have HR : Hid (allocR H o.site = (setO H k (madeO (gen + 1) m), ⟨0, idZ (k : Int) (gen + 1), []⟩)) := by
    show _ = _
    unfold allocR
    rw [if_neg (by omega), if_neg (by omega), if_neg (by omega), hget]
    simp only [ekf, Int.toNat_natCast, hge, namedH, siteN]
    rw [if_neg (by omega), if_neg (by omega), hm]
  have HGO : Hid (s.oa = some ⟨go, 0, none⟩) := hgo
  have HOL : Hid (H.objs.length ≤ 1048576 ∧ k < H.objs.length) := ⟨hs.objs, hkl⟩
  have HK2 : Hid (k < H.objs.length) := hkl
  have HNH : Hid (¬ HasB s (wr.heap.size + 1)) := nh
  have HGN : Hid (∀ X, HM X B s H → X.cell? ⟨go, k * 8 + 1, none⟩ = some (.int .i64 gen)) := fun X hX => by
    have e := (hm_obj hX k hkl go hgo).2.1.c1
    rw [hge] at e
    exact e
  rw [HR.out]
  rw [ekf] at CFR
  rw [hge] at hgen
  unfold siteZ at hsz hm
  rw [hm] at CI0 hsz
  clear hs hL LV F5 F3 BV HR nh hl hsl ekf k0 k1 k2 k3 hget hge hgo hkl hm CR h6
  go_enter Try.func24, Try.ntmps24
  go_wp2_with fail
  rw [← hV]
  clear hV
  refine (CW.out _).mono ?_
  rintro e w5 ⟨rfl, rfl⟩
  go_wp2_with fail
  refine (CFR.out ()).mono ?_
  rintro e w3 ⟨rfl, b3⟩
  clear x0 x1 x2 x3 CFR CW
  have CI : Hid (∀ X : LaterW w3, _) := fun X => CI0.out X.on (b3.trans (X.bel.mono b3.size))
  have y1 : ∀ X : LaterW w3, X.on.cell? ⟨gx, 3, none⟩ = some (.slice s.sa s.sn s.sc) := fun X => (HQ.out X.on (b3.trans (X.bel.mono b3.size))).1
  have y2 : ∀ X : LaterW w3, X.on.cell? ⟨wr.heap.size, 4, none⟩ = some (.string (txt o.site)) := fun X => (HQ.out X.on (b3.trans (X.bel.mono b3.size))).2
  have hnel := LaterW.some_ w3
  go_wp2
  refine wp_region_later w3 (Below.refl _ _) (by kernel_rfl) (by kernel_rfl) ?_
  repeat (go_big_quiet_step (first
    | (go_at_call 41; refine (CI.out _).mono ?_; rintro e w2 ⟨rfl, hw2⟩; subst hw2; exact ⟨rfl, LaterW.step _ (Below.refl _ _)⟩)))
  refine wpQuiet_nil ?_
  intro X hXe
  have hX3 : Below w3.heap.size w3 X := by obtain ⟨n, hn⟩ := hXe; rw [hn]; exact n.bel
  have hX := b3.trans (hX3.mono b3.size)
  clear hXe y1 y2 hnel CI CI0 hX3 b3
  have HTY : Hid (Three X (wr.heap.size + 1) (.int .i64 0) (.int .i64 0) (.slice none 0 0)) := HT.out.later hX
  have HLY : Hid (LS W X B gx s H (.slice none 0 0) (.slice none 0 0) [] []) := ls_later HL.out hX
  clear HQ HRS HSN hX HL HT k4
  obtain ⟨x0, x1, x2, x3⟩ := HLY.out.x.cells
  rw [HGO.out] at x0
  have hn1 : s.os.length ≤ 1048576 := by rw [HLY.out.m.lo]; exact HOL.out.1
  have hlen : k < s.os.length := by rw [HLY.out.m.lo]; exact HOL.out.2
  have CV : Hid (∀ X : World, _) := fun X => cellsOf_calls X (some ⟨go, 0, none⟩) s.os.length s.oc (.slice s.wa s.wn s.wc) (.slice s.ba s.bn s.bc) (.slice s.sa s.sn s.sc) hn1 go 0 (fun _ => rfl) ⟨_, _, _, _, _, _, _, _, _, rfl, rfl, rfl⟩
  obtain ⟨xx, hx, hxs⟩ := cells_idx go 0 s.os.length k hk8
  rw [hx] at CV
  have hA : cellA go 0 s.os.length k = some ⟨go, k * 8, none⟩ := by unfold cellA; rw [if_pos hlen, Nat.zero_add]
  rw [hA] at hxs
  clear hx hA
  have hi0 : (k : Int) < 8 := by omega
  go_wp2_with fail
  refine (CV.out _).mono ?_
  rintro e w6 ⟨rfl, b6⟩
  clear x0 x1 x2 x3 CV
  have g1 : w6.cell? ⟨go, k * 8 + 1, none⟩ = some (.int .i64 gen) := HGN.out w6 (ls_later HLY.out b6).m
  go_wp2_with fail
  refine (CE.out _).mono ?_
  rintro e w7 ⟨f7, rfl, o7, b7⟩
  obtain ⟨a7, c7, hv7, -⟩ := rdI_own' o7
  rw [show ([-1, -1, -1] : List Int).length = 3 from rfl] at hv7
  subst hv7
  have HLE : Hid _ := ls_made (ls_later HLY.out b6) b7 k HK2.out go HGO.out (gen + 1) m a7 c7 o7
  obtain ⟨_, ob7, fz7⟩ := hm_obj (hm_later (ls_later HLY.out b6).m b7) k HK2.out go HGO.out
  obtain ⟨v0, e0⟩ := objAt_some ob7 0 (by omega)
  obtain ⟨v1, e1⟩ := objAt_some ob7 1 (by omega)
  obtain ⟨v2, e2⟩ := objAt_some ob7 2 (by omega)
  obtain ⟨v3, e3⟩ := objAt_some ob7 3 (by omega)
  obtain ⟨v4, e4⟩ := objAt_some ob7 4 (by omega)
  obtain ⟨v5, e5⟩ := objAt_some ob7 5 (by omega)
  obtain ⟨v6, e6⟩ := objAt_some ob7 6 (by omega)
  obtain ⟨v7, e7⟩ := objAt_some ob7 7 (by omega)
  have n0 := fz7 0 (by omega)
  have n1 := fz7 1 (by omega)
  have n2 := fz7 2 (by omega)
  have n3 := fz7 3 (by omega)
  have n4 := fz7 4 (by omega)
  have n5 := fz7 5 (by omega)
  have n6 := fz7 6 (by omega)
  have n7 := fz7 7 (by omega)
  rw [Nat.add_zero] at e0 n0
  have T7 := HTY.out.later (b6.trans (b7.mono b6.size))
  obtain ⟨Yw, hYw⟩ : ∃ Yw, Yw = ((((setObj w7 go (k * 8) (emptyD (gen + 1)) (.slice a7 3 c7)).setCell ⟨go, k * 8, none⟩ (.bool true)).setCell ⟨go, k * 8 + 2, none⟩ (.int .i64 m)).setCell ⟨go, k * 8 + 3, none⟩ (.int .i64 1)).setCell ⟨go, k * 8 + 5, none⟩ (.int .i64 1) := ⟨_, rfl⟩
  have TY : Three Yw (wr.heap.size + 1) (.int .i64 0) (.int .i64 0) (.slice none 0 0) := by
    rw [hYw]
    unfold setObj
    refine T7.same ?_
    iterate 12 rw [heap_setCell_other _ _ _ _ (by exact hg4)]
  rw [← hYw] at HLE
  have hs6 := b6.size
  have HNB : Hid (¬ HasB ({ s with os := s.os.set k ⟨a7, 3, c7⟩ } : HSh) (wr.heap.size + 1)) := fun hh => by
    rcases hasB_set hh with h1 | ⟨x, hx, e⟩
    · exact HNH.out h1
    · have h2 := (ownI_lt o7 _ (own_block hx)).1
      have h3 := HTY.out.lt
      rw [e] at h2
      omega
  have HX : Hid (ImplPost W B gx (setO H k (madeO (gen + 1) m), ⟨0, idZ (k : Int) (gen + 1), []⟩) (.returned (ansV 0 (idZ (k : Int) (gen + 1)) (.slice none 0 0))) (setThree Yw (wr.heap.size + 1) (.int .i64 0) (.int .i64 (idZ (k : Int) (gen + 1))) (.slice none 0 0))) := ls_end (w := wr) (wr.heap.size + 1) 0 _ HLE.out (by omega) HNB.out hne (by simp [Value.ownBlock]) _ _ _
  obtain ⟨q0, q1, q2⟩ := TY.cells
  obtain ⟨z0, z1, z2⟩ := TY.frees
  clear b7 b6 ob7 fz7 T7 g1 o7 hxs CE TY HLE HNB
  unfold setObj at hYw
  simp only [emptyD] at hYw
  unfold objV
  simp only [emptyD]
  go_wp2_with fail
  rw [← hYw]
  clear hYw e0 e1 e2 e3 e4 e5 e6 e7 n0 n1 n2 n3 n4 n5 n6 n7
  refine (CID.out _).mono ?_
  rintro e w8 ⟨rfl, rfl⟩
  unfold setThree at HX
  go_wp2
  exact bodyPost_ret (v := ansV 0 (idZ (k : Int) (gen + 1)) (.slice none 0 0)) (by simp [results, Try.results24, go_sem, ansV, *]) rfl HX.out


/-- What holds of the memory while the names grow. -/
structure NJ (W wr : World) (B : Nat) (s : HSh) (H : HeapD) (dn : Nat → Prop) (X : World) : Prop where
  bel : Below B W X
  ge : wr.heap.size ≤ X.heap.size
  oth : ∀ i, i < wr.heap.size → (Value.slice s.sa s.sn s.sc).ownBlock ≠ some i → X.heap[i]? = wr.heap[i]?
  own : ¬ dn 9 → ownS X B (.slice s.sa s.sn s.sc) H.sites
theorem NJ.later {W wr X Y : World} {B : Nat} {s : HSh} {H : HeapD} {dn : Nat → Prop} {i : Nat} (hB : B ≤ wr.heap.size) (h : NJ W wr B s H dn X) (hb : Below X.heap.size X Y) : NJ W wr B s H (fun j => dn j ∨ j = i) Y :=
  ⟨h.bel.trans (hb.mono (Nat.le_trans hB h.ge)), Nat.le_trans h.ge hb.size, fun j hj hn => (hb.block j (Nat.lt_of_lt_of_le hj h.ge)).trans (h.oth j hj hn), fun hn => ownS_later (h.own (fun h2 => hn (.inl h2))) hb⟩
def RSn (wr : World) (B gx n : Nat) (s : HSh) (H : HeapD) (x : List UInt8) : Nat → World → Value → Prop
  | 0, _, v => v = .pointer (some ⟨gx, 0, none⟩)
  | 1, _, v => v = .pointer (some ⟨gx, 0, none⟩)
  | 2, _, v => v = .pointer (some ⟨gx, 0, none⟩)
  | 3, _, v => v = .pointer (some ⟨gx, 3, none⟩)
  | 4, _, v => v = .slice s.sa s.sn s.sc
  | 5, _, v => v = .pointer (some ⟨n, 4, none⟩)
  | 6, _, v => v = .string (txt x)
  | 7, _, v => v = .string (txt x)
  | 8, X, v => ∃ g, v = .slice (some ⟨g, 0, none⟩) 1 1 ∧ wr.heap.size ≤ g ∧ X.heap[g]? = some (.cells #[.string (txt x)] 9 (0, 0))
  | 9, X, v => ownS X B v (H.sites ++ [x]) ∧ (v.ownBlock = (Value.slice s.sa s.sn s.sc).ownBlock ∨ ∃ g, v.ownBlock = some g ∧ wr.heap.size ≤ g)
  | 10, _, v => v = .pointer (some ⟨gx, 0, none⟩)
  | 11, _, v => v = .pointer (some ⟨gx, 3, none⟩)
  | _, _, _ => True
theorem rsn_mono {wr : World} {B gx n : Nat} {s : HSh} {H : HeapD} {x : List UInt8} (i : Nat) (X Y : World) (v : Value) (h : RSn wr B gx n s H x i X v) (hb : Below X.heap.size X Y) : RSn wr B gx n s H x i Y v := by
  match i, h with
  | 0, h => exact h
  | 1, h => exact h
  | 2, h => exact h
  | 3, h => exact h
  | 4, h => exact h
  | 5, h => exact h
  | 6, h => exact h
  | 7, h => exact h
  | 8, ⟨g, h1, h2, h3⟩ => exact ⟨g, h1, h2, (hb.block g (Array.getElem?_eq_some_iff.1 h3).1).trans h3⟩
  | 9, ⟨h1, h2⟩ => exact ⟨ownS_later h1 hb, h2⟩
  | 10, h => exact h
  | 11, h => exact h
  | n + 12, _ => exact trivial
/-- The names are longer by one, which leaves all else. -/
theorem rsn_app {wr : World} {B gx n : Nat} {s : HSh} {H : HeapD} {x : List UInt8} (i : Nat) (X Y : World) (v : Value) (h9 : i ≠ 9) (h : RSn wr B gx n s H x i X v) (hs : ∀ g, g < X.heap.size → wr.heap.size ≤ g → Y.heap[g]? = X.heap[g]?) : RSn wr B gx n s H x i Y v := by
  match i, h with
  | 0, h => exact h
  | 1, h => exact h
  | 2, h => exact h
  | 3, h => exact h
  | 4, h => exact h
  | 5, h => exact h
  | 6, h => exact h
  | 7, h => exact h
  | 8, ⟨g, h1, h2, h3⟩ => exact ⟨g, h1, h2, (hs g (Array.getElem?_eq_some_iff.1 h3).1 h2).trans h3⟩
  | 9, _ => exact absurd rfl h9
  | 10, h => exact h
  | 11, h => exact h
  | n + 12, _ => exact trivial

set_option maxHeartbeats 4000000 in
theorem opAlloc_4 (W wr : World) (B gx : Nat) (s : HSh) (H : HeapD) (o : OpD) (hL : LS W wr B gx s H (.slice none 0 0) (.slice none 0 0) [] []) (hs : SmallH H) (hsl : o.site.length ≤ 1048576) (hl : 1 ≤ o.site.length ∧ o.site.length ≤ 8) (k : Nat) (hkl : k < H.objs.length) (hk8 : k < 8) (ekf : freeZ H = (k : Int)) (h6 : H.sites.length ≤ 6) (hgen : 0 ≤ H.objs[k].gen ∧ H.objs[k].gen < 999) (hsz : siteZ H o.site < 0) (hfull : H.sites.length < 6) :
    Calls Try.prog 24 #[opV o, .pointer (some ⟨gx, 0, none⟩)] wr fun e w' => ImplPost W B gx (allocR H o.site) e w' := by
  obtain ⟨V, hV, BV, sV, F5, F3⟩ := entry2 wr o
  have LV : LS W V B gx s H (.slice none 0 0) (.slice none 0 0) [] [] := ls_later hL BV
  have hgx := hL.x.lt
  have hle := hL.le
  have nh : ¬ HasB s (wr.heap.size + 1) := hm_no hL.m (.inr (by omega))
  have hne : wr.heap.size + 1 ≠ gx := by omega
  have HE : Hid (∀ X H2 c v y0 y1 y2, LS W X B gx s H2 (.slice none 0 0) (.slice none 0 0) [] [] → ImplPost W B gx (H2, ⟨c, v, []⟩) (.returned (ansV c v (.slice none 0 0))) (setThree X (wr.heap.size + 1) y0 y1 y2)) := fun X H2 c v y0 y1 y2 hX => ls_end (w := wr) (wr.heap.size + 1) c v hX (by omega) nh hne (by simp [Value.ownBlock]) y0 y1 y2
  have HT : Hid (Three V (wr.heap.size + 1) (.int .i64 0) (.int .i64 0) (.slice none 0 0)) := F3
  have HL : Hid (LS W V B gx s H (.slice none 0 0) (.slice none 0 0) [] []) := LV
  have CR : Hid (∀ c X, _) := fun c X => refused_calls c X
  unfold opV
  obtain ⟨k0, k1, k2, k3, k4⟩ := F5.cells
  have CW : Hid (∀ X, _) := fun X => within_yes ((txt o.site).size : Int) 1 8 X (by rw [txt_size]; omega) (by rw [txt_size]; omega)
  have CFR : Hid (∀ _ : Unit, _) := fun (_ : Unit) => iFreeSlot_calls s.v H V (hm_rd LV.m) hs
  rw [hsv] at CFR
  obtain ⟨x0, x1, x2, x3⟩ := LV.x.cells
  have HSN : Hid (s.sn = H.sites.length) := LV.m.ls
  have HRS : Hid (∀ X, Below V.heap.size V X → RdS X s.sa H.sites) := fun X hX => (hm_parts (hm_later LV.m hX)).2.2.2
  have HQ : Hid (∀ X, Below V.heap.size V X → X.cell? ⟨gx, 3, none⟩ = some (.slice s.sa s.sn s.sc) ∧ X.cell? ⟨wr.heap.size, 4, none⟩ = some (.string (txt o.site))) := fun X hX => ⟨(LV.x.later hX).cell 3, (F5.later hX).cell 4⟩
  have CI0 : Hid (∀ X, Below V.heap.size V X → _) := fun X hX => idxStr_calls X s.sa s.sc H.sites o.site (HRS.out X hX) (by have := hs.sites; omega)
  rw [← HSN.out] at CI0
  have hsn6 : s.sn ≤ 6 := by rw [HSN.out]; exact h6
  obtain ⟨go, hgo, hgB, hgl⟩ := hm_own LV.m k hkl
  have hgn : go < wr.heap.size := (hm_bl hL.m (.inl ⟨_, hgo, rfl⟩)).2
  have hg3 : ¬ go = wr.heap.size + 1 := by omega
  have hg4 : ¬ wr.heap.size + 1 = go := by omega
  have hget : H.objs[(freeZ H).toNat]? = some H.objs[k] := by rw [ekf, Int.toNat_natCast, List.getElem?_eq_getElem hkl]
  obtain ⟨gen, hge⟩ : ∃ gen, H.objs[k].gen = gen := ⟨_, rfl⟩
  have CE : Hid (∀ X, _) := fun X => emptyObj_calls (gen + 1) X
  have CID : Hid (∀ X, _) := fun X => iIdOf_calls (k : Int) (gen + 1) X
  have HR : Hid (allocR H o.site = (setO { H with sites := H.sites ++ [o.site] } k (madeO (gen + 1) (s.sn : Int)), ⟨0, idZ (k : Int) (gen + 1), []⟩)) := by
    show _ = _
    unfold allocR
    rw [if_neg (by omega), if_neg (by omega), if_neg (by omega), hget]
    simp only [ekf, Int.toNat_natCast, hge, namedH, siteN]
    rw [if_pos hsz, if_pos hsz, HSN.out]
  have HGO0 : Hid (s.oa = some ⟨go, 0, none⟩) := hgo
  have HOL : Hid (H.objs.length ≤ 1048576 ∧ k < H.objs.length) := ⟨hs.objs, hkl⟩
  have HK2 : Hid (k < H.objs.length) := hkl
  have HNH0 : Hid (¬ HasB s (wr.heap.size + 1)) := nh
  have HNX : Hid (¬ HasB s gx) := hL.sx
  have HN0 : Hid (¬ HasB s wr.heap.size) := hm_no hL.m (.inr (Nat.le_refl _))
  have HGEN : Hid (H.objs[k].gen = gen) := hge
  have hq6 : s.sn < 6 := by rw [HSN.out]; exact hfull
  have hq7 : ((s.sn : Int) == 6) = false := by rw [beq_eq_false_iff_ne]; omega
  have CCL : Hid (∀ X : World, _) := fun X => strClone_calls (txt o.site) X (by rw [txt_size]; omega)
  have HLEB : Hid (B ≤ wr.heap.size + 2) := Nat.le_trans hle (by omega)
  rw [HR.out]
  rw [ekf] at CFR
  rw [hge] at hgen
  unfold siteZ at hsz
  generalize idxL o.site H.sites 0 = z at *
  clear hs hL LV F5 F3 BV HR nh hl hsl ekf k0 k1 k2 k3 hget hge hgo hkl CR h6 hsn6
  go_enter Try.func24, Try.ntmps24
  go_wp2_with fail
  rw [← hV]
  clear hV
  refine (CW.out _).mono ?_
  rintro e w5 ⟨rfl, rfl⟩
  go_wp2_with fail
  refine (CFR.out ()).mono ?_
  rintro e w3 ⟨rfl, b3⟩
  clear x0 x1 x2 x3 CFR CW
  have CI : Hid (∀ X : LaterW w3, _) := fun X => CI0.out X.on (b3.trans (X.bel.mono b3.size))
  have y1 : ∀ X : LaterW w3, X.on.cell? ⟨gx, 3, none⟩ = some (.slice s.sa s.sn s.sc) := fun X => (HQ.out X.on (b3.trans (X.bel.mono b3.size))).1
  have y2 : ∀ X : LaterW w3, X.on.cell? ⟨wr.heap.size, 4, none⟩ = some (.string (txt o.site)) := fun X => (HQ.out X.on (b3.trans (X.bel.mono b3.size))).2
  have hnel := LaterW.some_ w3
  go_wp2
  refine wp_region_later w3 (Below.refl _ _) (by kernel_rfl) (by kernel_rfl) ?_
  repeat (go_big_quiet_step (first
    | (go_at_call 41; refine (CI.out _).mono ?_; rintro e w2 ⟨rfl, hw2⟩; subst hw2; exact ⟨rfl, LaterW.step _ (Below.refl _ _)⟩)))
  refine wpQuiet_nil ?_
  intro X hXe
  have hX3 : Below w3.heap.size w3 X := by obtain ⟨n, hn⟩ := hXe; rw [hn]; exact n.bel
  have hX := b3.trans (hX3.mono b3.size)
  clear hXe y1 y2 hnel CI CI0 hX3 b3
  have HTX : Hid (Three X (wr.heap.size + 1) (.int .i64 0) (.int .i64 0) (.slice none 0 0)) := HT.out.later hX
  have HL6 : Hid (LS W X B gx s H (.slice none 0 0) (.slice none 0 0) [] []) := ls_later HL.out hX
  obtain ⟨xq, xo⟩ := HQ.out X hX
  have HK5 : Hid (X.cell? ⟨wr.heap.size, 4, none⟩ = some (.string (txt o.site))) := xo
  have hXs := hX.size
  have HBX : Hid (B ≤ X.heap.size) := by have := HLEB.out; show _ ≤ _; omega
  clear HQ HRS hX HL HT k4 HLEB
  have HLEB : Hid (B ≤ X.heap.size) := HBX.out
  clear HBX
  go_wp2
  clear xq xo
  have hsb : ∀ i, (Value.slice s.sa s.sn s.sc).ownBlock = some i → HasB s i := fun i hi => by obtain ⟨y, hy, e⟩ := own_some hi; exact .inr (.inr (.inr (.inl ⟨y, hy, e⟩)))
  have HGXQ : Hid (∀ dn Y, NJ W X B s H dn Y → Four Y gx (.slice s.oa s.os.length s.oc) (.slice s.wa s.wn s.wc) (.slice s.ba s.bn s.bc) (.slice s.sa s.sn s.sc)) := fun dn Y hJ => HL6.out.x.same (hJ.oth gx HL6.out.x.lt (fun e => HNX.out (hsb _ e)))
  have HOPQ : Hid (∀ dn Y, NJ W X B s H dn Y → Y.cell? ⟨wr.heap.size, 4, none⟩ = some (.string (txt o.site))) := fun dn Y hJ => (World.cell?_of_block (a := ⟨wr.heap.size, 4, none⟩) (hJ.oth wr.heap.size (by omega) (fun e => HN0.out (hsb _ e)))).trans HK5.out
  refine wp_region_step 12 (by kernel_rfl) (by kernel_rfl) (NJ W X B s H) (RSn X B gx wr.heap.size s H o.site) (fun _ _ _ _ => True) ⟨HL6.out.bel.drew, Nat.le_refl _, fun _ _ _ => rfl, fun _ => HL6.out.m.st⟩ ?_ ?_
  · intro i o_ hi ho a Y dn hJ hA hbn hnot hdep
    match i, hi, ho with
    | 0, _, ho =>
      obtain rfl := Option.some.inj ho
      exact opMove (alike_at hA (t := 1) (by kernel_rfl))  ⟨_, rfl, hJ.later HLEB.out (Below.refl _ _), rfl, fun q hq _ t ht => ⟨hbn.yields q hq t ht, trivial, trivial⟩⟩
    | 1, _, ho =>
      obtain rfl := Option.some.inj ho
      exact opMove (alike_at hA (t := 1) (by kernel_rfl))  ⟨_, rfl, hJ.later HLEB.out (Below.refl _ _), rfl, fun q hq _ t ht => ⟨hbn.yields q hq t ht, trivial, trivial⟩⟩
    | 2, _, ho =>
      obtain rfl := Option.some.inj ho
      have g1_ : a.eval (.tmp 43) = .pointer (some ⟨gx, 0, none⟩) := hbn.yields 1 (hdep ⟨1, .data⟩ (by simp) rfl) 43 rfl
      exact opNil g1_  ⟨_, rfl, hJ.later HLEB.out (Below.refl _ _), rfl, fun q hq _ t ht => ⟨hbn.yields q hq t ht, trivial, trivial⟩⟩
    | 3, _, ho =>
      obtain rfl := Option.some.inj ho
      have g2_ : a.eval (.tmp 44) = .pointer (some ⟨gx, 0, none⟩) := hbn.yields 2 (hdep ⟨2, .data⟩ (by simp) rfl) 44 rfl
      exact opField 3 (by omega) g2_  ⟨_, rfl, hJ.later HLEB.out (Below.refl _ _), rfl, fun q hq _ t ht => ⟨hbn.yields q hq t ht, trivial, trivial⟩⟩
    | 4, _, ho =>
      obtain rfl := Option.some.inj ho
      have g3_ : a.eval (.tmp 45) = .pointer (some ⟨gx, 3, none⟩) := hbn.yields 3 (hdep ⟨3, .data⟩ (by simp) rfl) 45 rfl
      exact opLoadS g3_ ((HGXQ.out _ _ hJ).cell 3) ⟨_, rfl, hJ.later HLEB.out (Below.refl _ _), rfl, fun q hq _ t ht => ⟨hbn.yields q hq t ht, trivial, trivial⟩⟩
    | 5, _, ho =>
      obtain rfl := Option.some.inj ho
      exact opFieldOp 4 (by omega) (alike_at hA (t := 2) (by kernel_rfl))  ⟨_, rfl, hJ.later HLEB.out (Below.refl _ _), rfl, fun q hq _ t ht => ⟨hbn.yields q hq t ht, trivial, trivial⟩⟩
    | 6, _, ho =>
      obtain rfl := Option.some.inj ho
      have g5_ : a.eval (.tmp 47) = .pointer (some ⟨wr.heap.size, 4, none⟩) := hbn.yields 5 (hdep ⟨5, .data⟩ (by simp) rfl) 47 rfl
      exact opLoadTxt g5_ (HOPQ.out _ _ hJ) ⟨_, rfl, hJ.later HLEB.out (Below.refl _ _), rfl, fun q hq _ t ht => ⟨hbn.yields q hq t ht, trivial, trivial⟩⟩
    | 7, _, ho =>
      obtain rfl := Option.some.inj ho
      have g6_ : a.eval (.tmp 48) = .string (txt o.site) := hbn.yields 6 (hdep ⟨6, .data⟩ (by simp) rfl) 48 rfl
      exact opCloneT g6_ (CCL.out Y) (fun e w' ⟨h1, h2⟩ => ⟨_, h1, _, rfl, hJ.later HLEB.out h2, rfl, fun q hq _ t ht => ⟨rsn_mono q _ _ _ (hbn.yields q hq t ht) h2, trivial, trivial⟩⟩)
    | 8, _, ho =>
      obtain rfl := Option.some.inj ho
      have g7_ : a.eval (.tmp 49) = .string (txt o.site) := hbn.yields 7 (hdep ⟨7, .data⟩ (by simp) rfl) 49 rfl
      have bX : Below Y.heap.size Y (Y.alloc (.cells #[.string (txt o.site)] 9)) := (Below.refl _ _).alloc (Nat.le_refl _) _
      exact opNewT g7_ ⟨_, rfl, hJ.later HLEB.out bX, ⟨Y.heap.size, rfl, hJ.ge, heap_alloc_new Y _⟩, fun q hq _ t ht => ⟨rsn_mono q _ _ _ (hbn.yields q hq t ht) bX, trivial, trivial⟩⟩
    | 9, _, ho =>
      obtain rfl := Option.some.inj ho
      have g4_ : a.eval (.tmp 46) = .slice s.sa s.sn s.sc := hbn.yields 4 (hdep ⟨4, .data⟩ (by simp) rfl) 46 rfl
      obtain ⟨q8, e2, hq8, hg8⟩ := hbn.yields 8 (hdep ⟨8, .data⟩ (by simp) rfl) 50 rfl
      have hown := hJ.own hnot
      have hge := hJ.ge
      have hlt9 : ∀ g, (Value.slice s.sa s.sn s.sc).ownBlock = some g → g < X.heap.size := fun g hg => (hm_bl HL6.out.m (hsb g hg)).2
      refine wp_appendT _ _ rfl B _ _ g4_ hown ⟨q8, 0, none⟩ o.site e2 (by simp [World.cell?, hg8]) (by have := HSN.out; omega) (by have := HLEB.out; omega) ?_
      intro v' X' hO hsz2 hoth hat hbel
      refine ⟨_, rfl, ⟨hbel B W hJ.bel (Nat.le_refl _), Nat.le_trans hge hsz2, fun j hj hn => (hoth j (by omega) hn).trans (hJ.oth j hj hn), fun h => absurd (.inr rfl) h⟩, ⟨hO, ?_⟩, fun q hq hne t ht => ⟨rsn_app q _ _ _ hne (hbn.yields q hq t ht) (fun g hg1 hg2 => hoth g hg1 (fun e => by have := hlt9 g e; omega)), trivial, trivial⟩⟩
      rcases hat with e | e
      · exact .inl e
      · exact .inr ⟨_, e, hge⟩
    | 10, _, ho =>
      obtain rfl := Option.some.inj ho
      have g0_ : a.eval (.tmp 42) = .pointer (some ⟨gx, 0, none⟩) := hbn.yields 0 (hdep ⟨0, .data⟩ (by simp) rfl) 42 rfl
      exact opNil g0_  ⟨_, rfl, hJ.later HLEB.out (Below.refl _ _), rfl, fun q hq _ t ht => ⟨hbn.yields q hq t ht, trivial, trivial⟩⟩
    | 11, _, ho =>
      obtain rfl := Option.some.inj ho
      have g10_ : a.eval (.tmp 52) = .pointer (some ⟨gx, 0, none⟩) := hbn.yields 10 (hdep ⟨10, .data⟩ (by simp) rfl) 52 rfl
      exact opField 3 (by omega) g10_  ⟨_, rfl, hJ.later HLEB.out (Below.refl _ _), rfl, fun q hq _ t ht => ⟨hbn.yields q hq t ht, trivial, trivial⟩⟩
  · intro o_ ho a Y dn hJ hA hbn hdn
    obtain rfl := Option.some.inj ho
    obtain ⟨hO, hat⟩ := hbn.yields 9 (hdn 9 (by omega)) 51 rfl
    have g11_ : a.eval (.tmp 53) = .pointer (some ⟨gx, 3, none⟩) := hbn.yields 11 (hdn 11 (by omega)) 53 rfl
    obtain ⟨sa2, sc2, e2, -⟩ := rdS_own hO
    rw [e2] at hO hat
    have FX := HGXQ.out _ _ hJ
    refine opStoreTs g11_ e2 (FX.cell 3) (FX.frozen 3) ?_
    have HLN : Hid _ := ls_names HL6.out hJ.bel hJ.ge hJ.oth sa2 (H.sites ++ [o.site]).length sc2 (H.sites ++ [o.site]) rfl hO (fun g hg => by
      rcases hat with e | ⟨g2, e, h2⟩
      · exact .inl (by rw [← e]; exact hg)
      · rw [e] at hg; injection hg with hg; subst hg; exact .inr h2)
    have HNH : Hid (¬ HasB ({ s with sa := sa2, sn := (H.sites ++ [o.site]).length, sc := sc2 } : HSh) (wr.heap.size + 1)) := fun hh => by
      rcases hasB_names hh with h1 | ⟨x, hx, e⟩
      · exact HNH0.out h1.has
      · rcases hat with e3 | ⟨g2, e3, h2⟩
        · exact HNH0.out (by rw [← e]; exact hsb _ (by rw [← e3]; exact own_block hx))
        · rw [own_block hx] at e3; injection e3 with e3; omega
    have HTY : Hid (Three (Y.setCell ⟨gx, 3, none⟩ (.slice sa2 (H.sites ++ [o.site]).length sc2)) (wr.heap.size + 1) (.int .i64 0) (.int .i64 0) (.slice none 0 0)) := (HTX.out.same (hJ.oth _ HTX.out.lt (fun e => HNH0.out (hsb _ e)))).same (heap_setCell_other _ _ _ _ (by exact hne))
    obtain ⟨us, hus, rfl⟩ := alike_tmps hA [42, 43, 44, 45, 46, 47, 48, 49, 50, 51, 52, 53] (by kernel_rfl)
    clear hbn hdn hA hus g11_ e2 hO hat hJ ho FX HGXQ HOPQ hsb CCL HLEB HTX HL6 HK5 HN0 HNX HNH0
    simp only [List.mapIdx_cons, List.mapIdx_nil, Nat.reduceAdd, List.contains_cons, List.contains_nil, Nat.reduceBEq, Bool.or_false, Bool.or_true, if_true, if_false, Bool.false_eq_true]
    generalize Y.setCell ⟨gx, 3, none⟩ (.slice sa2 (H.sites ++ [o.site]).length sc2) = Y at *
    generalize (H.sites ++ [o.site]).length = sn2 at *
    have HGO : Hid (({ s with sa := sa2, sn := sn2, sc := sc2 } : HSh).oa = some ⟨go, 0, none⟩) := HGO0.out
    obtain ⟨s1, hs1⟩ : ∃ s1 : HSh, s1 = { s with sa := sa2, sn := sn2, sc := sc2 } := ⟨_, rfl⟩
    rw [← hs1] at HLN HNH HGO
    have HLY : Hid (LS W Y B gx s1 { H with sites := H.sites ++ [o.site] } (.slice none 0 0) (.slice none 0 0) [] []) := HLN.out
    have HGN : Hid (∀ X, HM X B s1 { H with sites := H.sites ++ [o.site] } → X.cell? ⟨go, k * 8 + 1, none⟩ = some (.int .i64 gen)) := fun X hX => by
      have e : X.cell? ⟨go, k * 8 + 1, none⟩ = some (.int .i64 (H.objs[k]'(HK2.out)).gen) := (hm_obj hX k HK2.out go HGO.out).2.1.c1
      exact e.trans (congrArg (fun z => some (Value.int .i64 z)) HGEN.out)
    have hsm : 0 ≤ (s.sn : Int) := by omega
    obtain ⟨m, hm⟩ : ∃ m, (s.sn : Int) = m := ⟨_, rfl⟩
    have HM_ : Hid ((s.sn : Int) = m) := hm
    clear hs1 HLN hm HSN HGO0
    obtain ⟨x0, x1, x2, x3⟩ := HLY.out.x.cells
    rw [HGO.out] at x0
    have hn1 : s1.os.length ≤ 1048576 := by rw [HLY.out.m.lo]; exact HOL.out.1
    have hlen : k < s1.os.length := by rw [HLY.out.m.lo]; exact HOL.out.2
    have CV : Hid (∀ X : World, _) := fun X => cellsOf_calls X (some ⟨go, 0, none⟩) s1.os.length s1.oc (.slice s1.wa s1.wn s1.wc) (.slice s1.ba s1.bn s1.bc) (.slice s1.sa s1.sn s1.sc) hn1 go 0 (fun _ => rfl) ⟨_, _, _, _, _, _, _, _, _, rfl, rfl, rfl⟩
    obtain ⟨xx, hx, hxs⟩ := cells_idx go 0 s1.os.length k hk8
    rw [hx] at CV
    have hA : cellA go 0 s1.os.length k = some ⟨go, k * 8, none⟩ := by unfold cellA; rw [if_pos hlen, Nat.zero_add]
    rw [hA] at hxs
    clear hx hA
    have hi0 : (k : Int) < 8 := by omega
    go_wp2_with fail
    refine (CV.out _).mono ?_
    rintro e w6 ⟨rfl, b6⟩
    clear x0 x1 x2 x3 CV
    have g1 : w6.cell? ⟨go, k * 8 + 1, none⟩ = some (.int .i64 gen) := HGN.out w6 (ls_later HLY.out b6).m
    go_wp2_with fail
    refine (CE.out _).mono ?_
    rintro e w7 ⟨f7, rfl, o7, b7⟩
    obtain ⟨a7, c7, hv7, -⟩ := rdI_own' o7
    rw [show ([-1, -1, -1] : List Int).length = 3 from rfl] at hv7
    subst hv7
    have HLE : Hid _ := ls_made (ls_later HLY.out b6) b7 k HK2.out go HGO.out (gen + 1) (s.sn : Int) a7 c7 o7
    obtain ⟨_, ob7, fz7⟩ := hm_obj (hm_later (ls_later HLY.out b6).m b7) k HK2.out go HGO.out
    obtain ⟨v0, e0⟩ := objAt_some ob7 0 (by omega)
    obtain ⟨v1, e1⟩ := objAt_some ob7 1 (by omega)
    obtain ⟨v2, e2⟩ := objAt_some ob7 2 (by omega)
    obtain ⟨v3, e3⟩ := objAt_some ob7 3 (by omega)
    obtain ⟨v4, e4⟩ := objAt_some ob7 4 (by omega)
    obtain ⟨v5, e5⟩ := objAt_some ob7 5 (by omega)
    obtain ⟨v6, e6⟩ := objAt_some ob7 6 (by omega)
    obtain ⟨v7, e7⟩ := objAt_some ob7 7 (by omega)
    have n0 := fz7 0 (by omega)
    have n1 := fz7 1 (by omega)
    have n2 := fz7 2 (by omega)
    have n3 := fz7 3 (by omega)
    have n4 := fz7 4 (by omega)
    have n5 := fz7 5 (by omega)
    have n6 := fz7 6 (by omega)
    have n7 := fz7 7 (by omega)
    rw [Nat.add_zero] at e0 n0
    have T7 := HTY.out.later (b6.trans (b7.mono b6.size))
    obtain ⟨Yw, hYw⟩ : ∃ Yw, Yw = ((((setObj w7 go (k * 8) (emptyD (gen + 1)) (.slice a7 3 c7)).setCell ⟨go, k * 8, none⟩ (.bool true)).setCell ⟨go, k * 8 + 2, none⟩ (.int .i64 (s.sn : Int))).setCell ⟨go, k * 8 + 3, none⟩ (.int .i64 1)).setCell ⟨go, k * 8 + 5, none⟩ (.int .i64 1) := ⟨_, rfl⟩
    have TY : Three Yw (wr.heap.size + 1) (.int .i64 0) (.int .i64 0) (.slice none 0 0) := by
      rw [hYw]
      unfold setObj
      refine T7.same ?_
      iterate 12 rw [heap_setCell_other _ _ _ _ (by exact hg4)]
    rw [← hYw] at HLE
    have hs6 := b6.size
    have HNB : Hid (¬ HasB ({ s1 with os := s1.os.set k ⟨a7, 3, c7⟩ } : HSh) (wr.heap.size + 1)) := fun hh => by
      rcases hasB_set hh with h1 | ⟨x, hx, e⟩
      · exact HNH.out h1
      · have h2 := (ownI_lt o7 _ (own_block hx)).1
        have h3 := HTY.out.lt
        rw [e] at h2
        omega
    have HX : Hid (ImplPost W B gx (setO { H with sites := H.sites ++ [o.site] } k (madeO (gen + 1) (s.sn : Int)), ⟨0, idZ (k : Int) (gen + 1), []⟩) (.returned (ansV 0 (idZ (k : Int) (gen + 1)) (.slice none 0 0))) (setThree Yw (wr.heap.size + 1) (.int .i64 0) (.int .i64 (idZ (k : Int) (gen + 1))) (.slice none 0 0))) := ls_end (w := wr) (wr.heap.size + 1) 0 _ HLE.out (by omega) HNB.out hne (by simp [Value.ownBlock]) _ _ _
    obtain ⟨q0, q1, q2⟩ := TY.cells
    obtain ⟨z0, z1, z2⟩ := TY.frees
    clear b7 b6 ob7 fz7 T7 g1 o7 hxs CE TY HLE HNB
    unfold setObj at hYw
    simp only [emptyD] at hYw
    unfold objV
    simp only [emptyD]
    go_wp2_with fail
    rw [← hYw]
    clear hYw e0 e1 e2 e3 e4 e5 e6 e7 n0 n1 n2 n3 n4 n5 n6 n7
    refine (CID.out _).mono ?_
    rintro e w8 ⟨rfl, rfl⟩
    unfold setThree at HX
    go_wp2
    exact bodyPost_ret (v := ansV 0 (idZ (k : Int) (gen + 1)) (.slice none 0 0)) (by simp [results, Try.results24, go_sem, ansV, *]) rfl HX.out

end Go.Proofs.Ytjhdnachbahbmaa

namespace Go.Proofs.Ytjhdnachbahbmaa
open Go.RowKit
set_option linter.unusedVariables false
set_option maxRecDepth 100000

/-- What Apply leaves, the results' boxes written in whatever order. -/
theorem app_end {w X Y : World} {B C n : Nat} {s : HSh} {H : HeapD} {c v : Int} {fr : List Int} {vf : Value} (hn : n + 1 < B) (hwn : C ≤ B) (hb : Below C w Y) (hsz : X.heap.size ≤ Y.heap.size) (hY : ∀ g, n + 1 < g → g < X.heap.size → Y.heap[g]? = X.heap[g]?) (m : HM X B s H) (f : ownI X B vf fr) (d : ∀ g, vf.ownBlock = some g → ¬ HasB s g) : SpecPost w C (H, ⟨c, v, fr⟩) (.returned (.tuple #[s.v, ansV c v vf])) Y :=
  ⟨s, vf, rfl, hm_mono (hm_same m hsz (fun g hg => hY g (by have := (hm_bl m hg).1; omega) (hm_bl m hg).2)) hwn, ownI_mono (ownI_same f (fun g hg => hY g (by have := (ownI_lt f g hg).1; omega) (ownI_lt f g hg).2)) hwn, d, hb⟩

/-- What holds of the memory while the two are returned. -/
structure RJ (w wr : World) (C n : Nat) (x0 x1 x2 x3 : Value) (dn : Nat → Prop) (X : World) : Prop where
  bel : Below C w X
  ge : wr.heap.size ≤ X.heap.size
  oth : ∀ i, i ≠ n → i < wr.heap.size → X.heap[i]? = wr.heap[i]?
  f0 : ¬ dn 2 → Four X n (.slice none 0 0) (.slice none 0 0) (.slice none 0 0) (.slice none 0 0)
  f1 : dn 2 → Four X n x0 x1 x2 x3
theorem RJ.later {w wr X Y : World} {C n : Nat} {x0 x1 x2 x3 : Value} {dn : Nat → Prop} {i : Nat} (hw : C ≤ wr.heap.size) (h : RJ w wr C n x0 x1 x2 x3 dn X) (hi : i ≠ 2) (hb : Below X.heap.size X Y) : RJ w wr C n x0 x1 x2 x3 (fun j => dn j ∨ j = i) Y :=
  ⟨h.bel.trans (hb.mono (Nat.le_trans hw h.ge)), Nat.le_trans h.ge hb.size, fun j hj hl => (hb.block j (Nat.lt_of_lt_of_le hl h.ge)).trans (h.oth j hj hl), fun hn => (h.f0 (fun h2 => hn (.inl h2))).later hb, fun hd => (h.f1 (hd.resolve_right (fun e => hi e.symm))).later hb⟩
def RQ2 (hv av : Value) : Nat → World → Value → Prop
  | 0, _, v => v = hv
  | 1, _, v => v = av
  | _, _, _ => True
theorem opStoreAn {i j : Tmp} {ty : TypeId} {pos : String} {af : Array Edge} {a : Act} {X : World} {K : Act → World → Prop} {Q : Exit → Act → World → Prop} {g : Nat} {u0 u1 u2 : Value} {c v : Int} {x : Option Addr} {n cc : Nat} (h1 : a.eval (.tmp i) = .pointer (some ⟨g, 0, none⟩)) (h2 : a.eval (.tmp j) = .agg #[.int .i64 c, .int .i64 v, .slice x n cc]) (hf : Three X g u0 u1 u2) (hK : K a (setThree X g (.int .i64 c) (.int .i64 v) (.slice x n cc))) :
    Oper.wp Try.prog ⟨none, .store 38 (.tmp i) (.tmp j), ty, pos, af, none⟩ a X K Q := by
  have e1 := ev_tmp h1
  have e2 := ev_tmp h2
  obtain ⟨k0, k1, k2⟩ := hf.cells
  obtain ⟨z0, z1, z2⟩ := hf.frees
  unfold setThree at hK
  clear hf
  go_simp; exact hK
theorem opLoadAn {t i : Tmp} {ty : TypeId} {pos : String} {af : Array Edge} {a : Act} {X : World} {K : Act → World → Prop} {Q : Exit → Act → World → Prop} {g : Nat} {u0 u1 u2 : Value} (h1 : a.eval (.tmp i) = .pointer (some ⟨g, 0, none⟩)) (hf : Three X g u0 u1 u2) (hK : K (a.put (some t) (.agg #[u0, u1, u2])) X) :
    Oper.wp Try.prog ⟨some t, .load 38 (.tmp i), ty, pos, af, none⟩ a X K Q := by
  have h := ev_tmp h1
  obtain ⟨k0, k1, k2⟩ := hf.cells
  clear hf
  go_simp; exact hK
theorem opRefused {t : Tmp} {ty : TypeId} {pos : String} {af : Array Edge} {ats : Array TypeId} {a : Act} {X : World} {K : Act → World → Prop} {Q : Exit → Act → World → Prop} {post : Ending → World → Prop} (hC : Calls Try.prog 17 #[.int .i64 2] X post) (hK : ∀ e w', post e w' → ∃ x, e = .returned x ∧ K (a.put (some t) x) w') :
    Oper.wp Try.prog ⟨some t, .call { callee := .value (.func 17), args := #[.const (.int .i64 2)], argTypes := ats }, ty, pos, af, none⟩ a X K Q := by
  go_simp
  refine hC.mono (fun e w' hp => ?_)
  obtain ⟨x, rfl, hx⟩ := hK e w' hp
  exact hx

end Go.Proofs.Ytjhdnachbahbmaa

namespace Go.Proofs.Ytjhdnachbahbmaa
open Go.RowKit
set_option linter.unusedVariables false
set_option maxRecDepth 100000

set_option maxHeartbeats 8000000 in
theorem iApply_bad (v : Value) (H : HeapD) (o : OpD) (w : World) (h : RdH w v H) (hs : SmallH H) (hko : in64 o.kind) (hwk : workV o.kind = .nilFunc) :
    Calls Try.prog 10 #[v, opV o] w fun e w' => SpecPost w w.heap.size (refR H 2) e w' := by
  have CC : Hid (∀ X, Below w.heap.size w X → _) := fun X hX => iCopy_calls v H X (rdH_later h hX) hs
  have CW : Hid (∀ X, _) := fun X => workOf_calls o.kind X hko
  rw [hwk] at CW
  have CR : Hid (∀ c X, _) := fun c X => refused_calls c X
  have hnil : ∀ X : World, (binOp BinOp.eql 54 .nilFunc .nilFunc).run Try.prog X = .ok (.bool true) X := fun _ => by kernel_rfl
  obtain ⟨ao, co, aw, cw, ab, cb, sa, sc, rfl, -⟩ := h
  generalize H.objs.length = no at *
  generalize H.weaks.length = nw at *
  generalize H.buffer.length = nb at *
  generalize H.sites.length = ns at *
  obtain ⟨W, hW, BW, sW, F4, F5, FR, FA⟩ := entry4 w (.slice ao no co) (.slice aw nw cw) (.slice ab nb cb) (.slice sa ns sc) o
  have HBW : Hid (Below w.heap.size w W) := BW
  have H5 : Hid (Five W (w.heap.size + 1) o) := F5
  have HFR : Hid (Four W (w.heap.size + 1 + 1) (.slice none 0 0) (.slice none 0 0) (.slice none 0 0) (.slice none 0 0)) := FR
  have HFA : Hid (Three W (w.heap.size + 1 + 1 + 1) (.int .i64 0) (.int .i64 0) (.slice none 0 0)) := FA
  unfold opV
  clear hs hwk F4 F5 FR FA
  go_enter Try.func10, Try.ntmps10
  go_wp2_with fail
  rw [← hW]
  clear hW
  refine (CC.out _ BW).mono ?_
  rintro e w1 ⟨s0, rfl, M1, b1⟩
  have hs1 := b1.size
  obtain ⟨V, hV⟩ : ∃ V, V = w1.alloc (.cells #[.slice s0.oa s0.os.length s0.oc, .slice s0.wa s0.wn s0.wc, .slice s0.ba s0.bn s0.bc, .slice s0.sa s0.sn s0.sc] 33) := ⟨_, rfl⟩
  have BV : Below w1.heap.size w1 V := by rw [hV]; exact (Below.refl _ _).alloc (Nat.le_refl _) _
  have HX4 : Hid (Four V w1.heap.size (.slice s0.oa s0.os.length s0.oc) (.slice s0.wa s0.wn s0.wc) (.slice s0.ba s0.bn s0.bc) (.slice s0.sa s0.sn s0.sc)) := by rw [hV]; exact Four.new w1 _ _ _ _
  have bb : Below W.heap.size W V := b1.trans (BV.mono b1.size)
  have HMV : Hid (HM V W.heap.size s0 H) := hm_later M1 BV
  have HBV : Hid (Below W.heap.size W V) := bb
  have HSX : Hid (¬ HasB s0 w1.heap.size) := hm_no M1 (.inr (Nat.le_refl _))
  have k0 : w1.cell? ⟨w.heap.size + 1, 0, none⟩ = some (.int .i64 o.kind) := (H5.out.later b1).cell 0
  have m1 : w.heap.size + 1 < w1.heap.size := by omega
  have m2 : ¬ w.heap.size + 1 = w1.heap.size := by omega
  rw [hsv]
  clear M1 b1 BV bb BW CC
  go_wp2_with fail
  rw [← hV]
  clear hV k0 m1 m2
  refine (CW.out _).mono ?_
  rintro e w2 ⟨rfl, b2⟩
  have hs2 := b2.size
  have X4 := HX4.out.later b2
  have HM2 : Hid (HM w2 W.heap.size s0 H) := hm_later HMV.out b2
  have HBV2 : Hid (Below W.heap.size W w2) := HBV.out.trans (b2.mono HBV.out.size)
  have HGX : Hid (Four w2 w1.heap.size (.slice s0.oa s0.os.length s0.oc) (.slice s0.wa s0.wn s0.wc) (.slice s0.ba s0.bn s0.bc) (.slice s0.sa s0.sn s0.sc)) := X4
  have HN0 : Hid (Four w2 (w.heap.size + 1 + 1) (.slice none 0 0) (.slice none 0 0) (.slice none 0 0) (.slice none 0 0)) := HFR.out.later HBV2.out
  have HN1 : Hid (Three w2 (w.heap.size + 1 + 1 + 1) (.int .i64 0) (.int .i64 0) (.slice none 0 0)) := HFA.out.later HBV2.out
  have HBEL : Hid (Below w.heap.size w w2) := HBW.out.trans (HBV2.out.mono HBW.out.size)
  have HNE : Hid (w1.heap.size ≠ w.heap.size + 1 + 1) := by show _ ≠ _; omega
  have HCW : Hid (w.heap.size ≤ w2.heap.size) := HBEL.out.size
  have HCN : Hid (w.heap.size ≤ w.heap.size + 1 + 1) := by show _ ≤ _; omega
  have HBN : Hid (w.heap.size + 1 + 1 + 1 < W.heap.size) := by show _ < _; omega
  have HCB : Hid (w.heap.size ≤ W.heap.size) := by show _ ≤ _; omega
  have HMR : Hid (HM w2 W.heap.size s0 H) := HM2.out
  have HFR2 : Hid (ownI w2 W.heap.size (.slice none 0 0) []) := ownI_nil _ _
  have HDR : Hid (∀ g, (Value.slice none 0 0).ownBlock = some g → ¬ HasB s0 g) := fun g hg => by simp [Value.ownBlock] at hg
  clear b2 CW HMV HBV HX4 HFR HFA X4 HM2 HBV2 HBW H5 HSX
  go_wp2
  refine wp_region_step 3 (by kernel_rfl) (by kernel_rfl) (RJ w w2 w.heap.size (w.heap.size + 1 + 1) (.slice s0.oa s0.os.length s0.oc) (.slice s0.wa s0.wn s0.wc) (.slice s0.ba s0.bn s0.bc) (.slice s0.sa s0.sn s0.sc)) (RQ2 (.agg #[.slice s0.oa s0.os.length s0.oc, .slice s0.wa s0.wn s0.wc, .slice s0.ba s0.bn s0.bc, .slice s0.sa s0.sn s0.sc]) (.agg #[.int .i64 2, .int .i64 0, .slice none 0 0])) (fun _ _ _ _ => True) ⟨HBEL.out.drew, Nat.le_refl _, fun _ _ _ => rfl, fun _ => HN0.out, fun h => h.elim⟩ ?_ ?_
  · intro i o_ hi ho a Y dn hJ hA hbn hnot hdep
    match i, hi, ho with
    | 0, _, ho =>
      obtain rfl := Option.some.inj ho
      exact opLoadHw (alike_at hA (t := 6) (by kernel_rfl)) (HGX.out.same (hJ.oth _ HNE.out HGX.out.lt)) ⟨_, rfl, hJ.later HCW.out (by decide) (Below.refl _ _), rfl, fun q hq _ t ht => ⟨hbn.yields q hq t ht, trivial, trivial⟩⟩
    | 1, _, ho =>
      obtain rfl := Option.some.inj ho
      exact opRefused (CR.out 2 Y) (fun e w' ⟨h1, h2⟩ => ⟨_, h1, _, rfl, hJ.later HCW.out (by decide) h2, rfl, fun q hq _ t ht => ⟨by
        have hy := hbn.yields q hq t ht
        match q, hy with
        | 0, hy => exact hy
        | 1, hy => exact hy
        | n + 2, _ => exact trivial, trivial, trivial⟩⟩)
    | 2, _, ho =>
      obtain rfl := Option.some.inj ho
      have g0_ : a.eval (.tmp 21) = .agg #[.slice s0.oa s0.os.length s0.oc, .slice s0.wa s0.wn s0.wc, .slice s0.ba s0.bn s0.bc, .slice s0.sa s0.sn s0.sc] := hbn.yields 0 (hdep ⟨0, .data⟩ (by simp) rfl) 21 rfl
      refine opStoreH (alike_at hA (t := 4) (by kernel_rfl)) g0_ (hJ.f0 hnot) ?_
      refine ⟨undef, rfl, ⟨?_, by rw [setFour_size]; exact hJ.ge, fun j hj hl => (setFour_other _ _ _ _ _ _ j hj).trans (hJ.oth j hj hl), fun h => absurd (.inr rfl) h, fun _ => Four.setAll (hJ.f0 hnot) _ _ _ _⟩, trivial, fun q hq hne t ht => ⟨?_, trivial, trivial⟩⟩
      · unfold setFour
        iterate 4 refine Below.setCell ?_ (by simp only; exact HCN.out) _
        exact hJ.bel
      · have hy := hbn.yields q hq t ht
        match q, hy with
        | 0, hy => exact hy
        | 1, hy => exact hy
        | n + 2, _ => exact trivial
  · intro o_ ho a Y dn hJ hA hbn hdn
    obtain rfl := Option.some.inj ho
    have g1_ : a.eval (.tmp 22) = .agg #[.int .i64 2, .int .i64 0, .slice none 0 0] := hbn.yields 1 (hdn 1 (by omega)) 22 rfl
    have T1 : Three Y ((w.heap.size + 1 + 1) + 1) (.int .i64 0) (.int .i64 0) (.slice none 0 0) := HN1.out.same (hJ.oth _ (by omega) HN1.out.lt)
    refine opStoreAn (alike_at hA (t := 5) (by kernel_rfl)) g1_ T1 ?_
    have F1 := hJ.f1 (hdn 2 (by omega))
    obtain ⟨Z, hZ⟩ : ∃ Z, Z = setThree Y ((w.heap.size + 1 + 1) + 1) (.int .i64 2) (.int .i64 0) (.slice none 0 0) := ⟨_, rfl⟩
    have FZ : Four Z ((w.heap.size + 1 + 1)) (.slice s0.oa s0.os.length s0.oc) (.slice s0.wa s0.wn s0.wc) (.slice s0.ba s0.bn s0.bc) (.slice s0.sa s0.sn s0.sc) := by rw [hZ]; exact F1.same (setThree_other _ _ _ _ _ _ (by omega))
    have TZ : Three Z ((w.heap.size + 1 + 1) + 1) (.int .i64 2) (.int .i64 0) (.slice none 0 0) := by
      rw [hZ]; unfold setThree
      exact heap_setCell_same _ _ 2 _ _ _ (heap_setCell_same _ _ 1 _ _ _ (heap_setCell_same _ _ 0 _ _ _ T1))
    have HXZ : Hid (SpecPost w w.heap.size (H, ⟨2, 0, []⟩) (.returned (.tuple #[.agg #[.slice s0.oa s0.os.length s0.oc, .slice s0.wa s0.wn s0.wc, .slice s0.ba s0.bn s0.bc, .slice s0.sa s0.sn s0.sc], ansV 2 0 (.slice none 0 0)])) Z) := by
      refine app_end (n := (w.heap.size + 1 + 1)) HBN.out HCB.out ?_ ?_ (fun g hg hl => ?_) HMR.out HFR2.out HDR.out
      · rw [hZ]; unfold setThree
        iterate 3 refine Below.setCell ?_ (by simp only; have := HCN.out; omega) _
        exact hJ.bel
      · rw [hZ, setThree_size]; exact hJ.ge
      · rw [hZ, setThree_other _ _ _ _ _ g (by omega)]; exact hJ.oth g (by omega) hl
    rw [← hZ]
    obtain ⟨us, hus, rfl⟩ := alike_tmps hA [21, 22] (by kernel_rfl)
    clear hbn hdn hA hus g1_ hJ ho F1 T1 hZ
    simp only [List.mapIdx_cons, List.mapIdx_nil, Nat.reduceAdd, List.contains_cons, List.contains_nil, Nat.reduceBEq, Bool.or_false, Bool.or_true, if_true, if_false, Bool.false_eq_true]
    obtain ⟨r0, r1, r2, r3⟩ := FZ.cells
    obtain ⟨q0, q1, q2⟩ := TZ.cells
    clear FZ TZ HGX HN0 HN1 HBEL HNE HCW HCN HBN HCB HMR HFR2 HDR
    go_wp2
    exact bodyPost_ret (v := .tuple #[.agg #[.slice s0.oa s0.os.length s0.oc, .slice s0.wa s0.wn s0.wc, .slice s0.ba s0.bn s0.bc, .slice s0.sa s0.sn s0.sc], ansV 2 0 (.slice none 0 0)]) (by simp [results, Try.results10, go_sem, ansV, *]) rfl HXZ.out

set_option maxHeartbeats 8000000 in
theorem iApply_no (F : Nat) (v : Value) (H : HeapD) (o : OpD) (w : World) (h : RdH w v H) (hs : SmallH H) (hf : WfH H) (hko : in64 o.kind) (hwk : workV o.kind = .func (.func F) #[] #[]) (hnf : ∀ X : World, (binOp BinOp.eql 54 (.func (.func F) #[] #[]) .nilFunc).run Try.prog X = .ok (.bool false) X) (hno : ¬ OkH H) :
    Calls Try.prog 10 #[v, opV o] w fun e w' => SpecPost w w.heap.size (refR H 2) e w' := by
  have CC : Hid (∀ X, Below w.heap.size w X → _) := fun X hX => iCopy_calls v H X (rdH_later h hX) hs
  have CW : Hid (∀ X, _) := fun X => workOf_calls o.kind X hko
  rw [hwk] at CW
  have CR : Hid (∀ c X, _) := fun c X => refused_calls c X
  have hnil : ∀ X : World, (binOp BinOp.eql 54 (.func (.func F) #[] #[]) .nilFunc).run Try.prog X = .ok (.bool false) X := fun _ => by exact hnf _
  obtain ⟨ao, co, aw, cw, ab, cb, sa, sc, rfl, -⟩ := h
  generalize H.objs.length = no at *
  generalize H.weaks.length = nw at *
  generalize H.buffer.length = nb at *
  generalize H.sites.length = ns at *
  obtain ⟨W, hW, BW, sW, F4, F5, FR, FA⟩ := entry4 w (.slice ao no co) (.slice aw nw cw) (.slice ab nb cb) (.slice sa ns sc) o
  have HBW : Hid (Below w.heap.size w W) := BW
  have H5 : Hid (Five W (w.heap.size + 1) o) := F5
  have HFR : Hid (Four W (w.heap.size + 1 + 1) (.slice none 0 0) (.slice none 0 0) (.slice none 0 0) (.slice none 0 0)) := FR
  have HFA : Hid (Three W (w.heap.size + 1 + 1 + 1) (.int .i64 0) (.int .i64 0) (.slice none 0 0)) := FA
  unfold opV
  clear hwk F4 F5 FR FA
  go_enter Try.func10, Try.ntmps10
  go_wp2_with fail
  rw [← hW]
  clear hW
  refine (CC.out _ BW).mono ?_
  rintro e w1 ⟨s0, rfl, M1, b1⟩
  have hs1 := b1.size
  obtain ⟨V, hV⟩ : ∃ V, V = w1.alloc (.cells #[.slice s0.oa s0.os.length s0.oc, .slice s0.wa s0.wn s0.wc, .slice s0.ba s0.bn s0.bc, .slice s0.sa s0.sn s0.sc] 33) := ⟨_, rfl⟩
  have BV : Below w1.heap.size w1 V := by rw [hV]; exact (Below.refl _ _).alloc (Nat.le_refl _) _
  have HX4 : Hid (Four V w1.heap.size (.slice s0.oa s0.os.length s0.oc) (.slice s0.wa s0.wn s0.wc) (.slice s0.ba s0.bn s0.bc) (.slice s0.sa s0.sn s0.sc)) := by rw [hV]; exact Four.new w1 _ _ _ _
  have bb : Below W.heap.size W V := b1.trans (BV.mono b1.size)
  have HMV : Hid (HM V W.heap.size s0 H) := hm_later M1 BV
  have HBV : Hid (Below W.heap.size W V) := bb
  have HSX : Hid (¬ HasB s0 w1.heap.size) := hm_no M1 (.inr (Nat.le_refl _))
  have k0 : w1.cell? ⟨w.heap.size + 1, 0, none⟩ = some (.int .i64 o.kind) := (H5.out.later b1).cell 0
  have m1 : w.heap.size + 1 < w1.heap.size := by omega
  have m2 : ¬ w.heap.size + 1 = w1.heap.size := by omega
  rw [hsv]
  clear M1 b1 BV bb BW CC
  go_wp2_with fail
  rw [← hV]
  clear hV k0 m1 m2
  refine (CW.out _).mono ?_
  rintro e w2 ⟨rfl, b2⟩
  have hs2 := b2.size
  have X4 := HX4.out.later b2
  have HM2 : Hid (HM w2 W.heap.size s0 H) := hm_later HMV.out b2
  have HBV2 : Hid (Below W.heap.size W w2) := HBV.out.trans (b2.mono HBV.out.size)
  have CH : Hid (∀ X, Below w2.heap.size w2 X → _) := fun X hX => iHeapOk_calls s0.v H X (hm_rd (hm_later HM2.out hX)) hs hf (hm_cap HM2.out) false (by simp; exact hno)
  rw [hsv] at CH
  obtain ⟨x0, x1, x2, x3⟩ := X4.cells
  refine ?_
  clear hs hf
  go_wp2_with fail
  refine (CH.out _ (Below.refl _ _)).mono ?_
  rintro e w3 ⟨rfl, b3⟩
  clear x0 x1 x2 x3 CH
  have X5 := X4.later b3
  have HBV3 : Hid (Below W.heap.size W w3) := HBV2.out.trans (b3.mono HBV2.out.size)
  have HGX : Hid (Four w3 w1.heap.size (.slice s0.oa s0.os.length s0.oc) (.slice s0.wa s0.wn s0.wc) (.slice s0.ba s0.bn s0.bc) (.slice s0.sa s0.sn s0.sc)) := X5
  have HN0 : Hid (Four w3 (w.heap.size + 1 + 1) (.slice none 0 0) (.slice none 0 0) (.slice none 0 0) (.slice none 0 0)) := HFR.out.later HBV3.out
  have HN1 : Hid (Three w3 (w.heap.size + 1 + 1 + 1) (.int .i64 0) (.int .i64 0) (.slice none 0 0)) := HFA.out.later HBV3.out
  have HBEL : Hid (Below w.heap.size w w3) := HBW.out.trans (HBV3.out.mono HBW.out.size)
  have HNE : Hid (w1.heap.size ≠ w.heap.size + 1 + 1) := by show _ ≠ _; omega
  have HCW : Hid (w.heap.size ≤ w3.heap.size) := HBEL.out.size
  have HCN : Hid (w.heap.size ≤ w.heap.size + 1 + 1) := by show _ ≤ _; omega
  have HBN : Hid (w.heap.size + 1 + 1 + 1 < W.heap.size) := by show _ < _; omega
  have HCB : Hid (w.heap.size ≤ W.heap.size) := by show _ ≤ _; omega
  have HMR : Hid (HM w3 W.heap.size s0 H) := hm_later HM2.out b3
  have HFR2 : Hid (ownI w3 W.heap.size (.slice none 0 0) []) := ownI_nil _ _
  have HDR : Hid (∀ g, (Value.slice none 0 0).ownBlock = some g → ¬ HasB s0 g) := fun g hg => by simp [Value.ownBlock] at hg
  clear b2 CW HMV HBV HX4 HFR HFA X4 HM2 HBV2 HBW H5 HSX X5 HBV3 b3
  go_wp2
  refine wp_region_step 3 (by kernel_rfl) (by kernel_rfl) (RJ w w3 w.heap.size (w.heap.size + 1 + 1) (.slice s0.oa s0.os.length s0.oc) (.slice s0.wa s0.wn s0.wc) (.slice s0.ba s0.bn s0.bc) (.slice s0.sa s0.sn s0.sc)) (RQ2 (.agg #[.slice s0.oa s0.os.length s0.oc, .slice s0.wa s0.wn s0.wc, .slice s0.ba s0.bn s0.bc, .slice s0.sa s0.sn s0.sc]) (.agg #[.int .i64 2, .int .i64 0, .slice none 0 0])) (fun _ _ _ _ => True) ⟨HBEL.out.drew, Nat.le_refl _, fun _ _ _ => rfl, fun _ => HN0.out, fun h => h.elim⟩ ?_ ?_
  · intro i o_ hi ho a Y dn hJ hA hbn hnot hdep
    match i, hi, ho with
    | 0, _, ho =>
      obtain rfl := Option.some.inj ho
      exact opLoadHw (alike_at hA (t := 6) (by kernel_rfl)) (HGX.out.same (hJ.oth _ HNE.out HGX.out.lt)) ⟨_, rfl, hJ.later HCW.out (by decide) (Below.refl _ _), rfl, fun q hq _ t ht => ⟨hbn.yields q hq t ht, trivial, trivial⟩⟩
    | 1, _, ho =>
      obtain rfl := Option.some.inj ho
      exact opRefused (CR.out 2 Y) (fun e w' ⟨h1, h2⟩ => ⟨_, h1, _, rfl, hJ.later HCW.out (by decide) h2, rfl, fun q hq _ t ht => ⟨by
        have hy := hbn.yields q hq t ht
        match q, hy with
        | 0, hy => exact hy
        | 1, hy => exact hy
        | n + 2, _ => exact trivial, trivial, trivial⟩⟩)
    | 2, _, ho =>
      obtain rfl := Option.some.inj ho
      have g0_ : a.eval (.tmp 21) = .agg #[.slice s0.oa s0.os.length s0.oc, .slice s0.wa s0.wn s0.wc, .slice s0.ba s0.bn s0.bc, .slice s0.sa s0.sn s0.sc] := hbn.yields 0 (hdep ⟨0, .data⟩ (by simp) rfl) 21 rfl
      refine opStoreH (alike_at hA (t := 4) (by kernel_rfl)) g0_ (hJ.f0 hnot) ?_
      refine ⟨undef, rfl, ⟨?_, by rw [setFour_size]; exact hJ.ge, fun j hj hl => (setFour_other _ _ _ _ _ _ j hj).trans (hJ.oth j hj hl), fun h => absurd (.inr rfl) h, fun _ => Four.setAll (hJ.f0 hnot) _ _ _ _⟩, trivial, fun q hq hne t ht => ⟨?_, trivial, trivial⟩⟩
      · unfold setFour
        iterate 4 refine Below.setCell ?_ (by simp only; exact HCN.out) _
        exact hJ.bel
      · have hy := hbn.yields q hq t ht
        match q, hy with
        | 0, hy => exact hy
        | 1, hy => exact hy
        | n + 2, _ => exact trivial
  · intro o_ ho a Y dn hJ hA hbn hdn
    obtain rfl := Option.some.inj ho
    have g1_ : a.eval (.tmp 22) = .agg #[.int .i64 2, .int .i64 0, .slice none 0 0] := hbn.yields 1 (hdn 1 (by omega)) 22 rfl
    have T1 : Three Y ((w.heap.size + 1 + 1) + 1) (.int .i64 0) (.int .i64 0) (.slice none 0 0) := HN1.out.same (hJ.oth _ (by omega) HN1.out.lt)
    refine opStoreAn (alike_at hA (t := 5) (by kernel_rfl)) g1_ T1 ?_
    have F1 := hJ.f1 (hdn 2 (by omega))
    obtain ⟨Z, hZ⟩ : ∃ Z, Z = setThree Y ((w.heap.size + 1 + 1) + 1) (.int .i64 2) (.int .i64 0) (.slice none 0 0) := ⟨_, rfl⟩
    have FZ : Four Z ((w.heap.size + 1 + 1)) (.slice s0.oa s0.os.length s0.oc) (.slice s0.wa s0.wn s0.wc) (.slice s0.ba s0.bn s0.bc) (.slice s0.sa s0.sn s0.sc) := by rw [hZ]; exact F1.same (setThree_other _ _ _ _ _ _ (by omega))
    have TZ : Three Z ((w.heap.size + 1 + 1) + 1) (.int .i64 2) (.int .i64 0) (.slice none 0 0) := by
      rw [hZ]; unfold setThree
      exact heap_setCell_same _ _ 2 _ _ _ (heap_setCell_same _ _ 1 _ _ _ (heap_setCell_same _ _ 0 _ _ _ T1))
    have HXZ : Hid (SpecPost w w.heap.size (H, ⟨2, 0, []⟩) (.returned (.tuple #[.agg #[.slice s0.oa s0.os.length s0.oc, .slice s0.wa s0.wn s0.wc, .slice s0.ba s0.bn s0.bc, .slice s0.sa s0.sn s0.sc], ansV 2 0 (.slice none 0 0)])) Z) := by
      refine app_end (n := (w.heap.size + 1 + 1)) HBN.out HCB.out ?_ ?_ (fun g hg hl => ?_) HMR.out HFR2.out HDR.out
      · rw [hZ]; unfold setThree
        iterate 3 refine Below.setCell ?_ (by simp only; have := HCN.out; omega) _
        exact hJ.bel
      · rw [hZ, setThree_size]; exact hJ.ge
      · rw [hZ, setThree_other _ _ _ _ _ g (by omega)]; exact hJ.oth g (by omega) hl
    rw [← hZ]
    obtain ⟨us, hus, rfl⟩ := alike_tmps hA [21, 22] (by kernel_rfl)
    clear hbn hdn hA hus g1_ hJ ho F1 T1 hZ
    simp only [List.mapIdx_cons, List.mapIdx_nil, Nat.reduceAdd, List.contains_cons, List.contains_nil, Nat.reduceBEq, Bool.or_false, Bool.or_true, if_true, if_false, Bool.false_eq_true]
    obtain ⟨r0, r1, r2, r3⟩ := FZ.cells
    obtain ⟨q0, q1, q2⟩ := TZ.cells
    clear FZ TZ HGX HN0 HN1 HBEL HNE HCW HCN HBN HCB HMR HFR2 HDR
    go_wp2
    exact bodyPost_ret (v := .tuple #[.agg #[.slice s0.oa s0.os.length s0.oc, .slice s0.wa s0.wn s0.wc, .slice s0.ba s0.bn s0.bc, .slice s0.sa s0.sn s0.sc], ansV 2 0 (.slice none 0 0)]) (by simp [results, Try.results10, go_sem, ansV, *]) rfl HXZ.out

set_option maxHeartbeats 8000000 in
theorem iApply_do (F : Nat) (hF : F = 24 ∨ F = 25 ∨ F = 26 ∨ F = 27 ∨ F = 28 ∨ F = 29 ∨ F = 30) (v : Value) (H : HeapD) (o : OpD) (R : HeapD × AnsD) (w : World) (h : RdH w v H) (hs : SmallH H) (hf : WfH H) (hko : in64 o.kind) (hwk : workV o.kind = .func (.func F) #[] #[]) (hok : OkH H) (hC : ∀ W X B gx s, LS W X B gx s H (.slice none 0 0) (.slice none 0 0) [] [] → Calls Try.prog F #[opV o, .pointer (some ⟨gx, 0, none⟩)] X fun e w' => ImplPost W B gx R e w') :
    Calls Try.prog 10 #[v, opV o] w fun e w' => SpecPost w w.heap.size (R) e w' := by
  have CC : Hid (∀ X, Below w.heap.size w X → _) := fun X hX => iCopy_calls v H X (rdH_later h hX) hs
  have CW : Hid (∀ X, _) := fun X => workOf_calls o.kind X hko
  rw [hwk] at CW
  have CR : Hid (∀ c X, _) := fun c X => refused_calls c X
  have hnil : ∀ X : World, (binOp BinOp.eql 54 (.func (.func F) #[] #[]) .nilFunc).run Try.prog X = .ok (.bool false) X := fun _ => by rcases hF with rfl | rfl | rfl | rfl | rfl | rfl | rfl <;> kernel_rfl
  obtain ⟨ao, co, aw, cw, ab, cb, sa, sc, rfl, -⟩ := h
  obtain ⟨RH, rc, rv, rf⟩ := R
  generalize H.objs.length = no at *
  generalize H.weaks.length = nw at *
  generalize H.buffer.length = nb at *
  generalize H.sites.length = ns at *
  obtain ⟨W, hW, BW, sW, F4, F5, FR, FA⟩ := entry4 w (.slice ao no co) (.slice aw nw cw) (.slice ab nb cb) (.slice sa ns sc) o
  have HBW : Hid (Below w.heap.size w W) := BW
  have H5 : Hid (Five W (w.heap.size + 1) o) := F5
  have HFR : Hid (Four W (w.heap.size + 1 + 1) (.slice none 0 0) (.slice none 0 0) (.slice none 0 0) (.slice none 0 0)) := FR
  have HFA : Hid (Three W (w.heap.size + 1 + 1 + 1) (.int .i64 0) (.int .i64 0) (.slice none 0 0)) := FA
  unfold opV
  clear hwk F4 F5 FR FA
  go_enter Try.func10, Try.ntmps10
  go_wp2_with fail
  rw [← hW]
  clear hW
  refine (CC.out _ BW).mono ?_
  rintro e w1 ⟨s0, rfl, M1, b1⟩
  have hs1 := b1.size
  obtain ⟨V, hV⟩ : ∃ V, V = w1.alloc (.cells #[.slice s0.oa s0.os.length s0.oc, .slice s0.wa s0.wn s0.wc, .slice s0.ba s0.bn s0.bc, .slice s0.sa s0.sn s0.sc] 33) := ⟨_, rfl⟩
  have BV : Below w1.heap.size w1 V := by rw [hV]; exact (Below.refl _ _).alloc (Nat.le_refl _) _
  have HX4 : Hid (Four V w1.heap.size (.slice s0.oa s0.os.length s0.oc) (.slice s0.wa s0.wn s0.wc) (.slice s0.ba s0.bn s0.bc) (.slice s0.sa s0.sn s0.sc)) := by rw [hV]; exact Four.new w1 _ _ _ _
  have bb : Below W.heap.size W V := b1.trans (BV.mono b1.size)
  have HMV : Hid (HM V W.heap.size s0 H) := hm_later M1 BV
  have HBV : Hid (Below W.heap.size W V) := bb
  have HSX : Hid (¬ HasB s0 w1.heap.size) := hm_no M1 (.inr (Nat.le_refl _))
  have k0 : w1.cell? ⟨w.heap.size + 1, 0, none⟩ = some (.int .i64 o.kind) := (H5.out.later b1).cell 0
  have m1 : w.heap.size + 1 < w1.heap.size := by omega
  have m2 : ¬ w.heap.size + 1 = w1.heap.size := by omega
  rw [hsv]
  clear M1 b1 BV bb BW CC
  go_wp2_with fail
  rw [← hV]
  clear hV k0 m1 m2
  refine (CW.out _).mono ?_
  rintro e w2 ⟨rfl, b2⟩
  have hs2 := b2.size
  have X4 := HX4.out.later b2
  have HM2 : Hid (HM w2 W.heap.size s0 H) := hm_later HMV.out b2
  have HBV2 : Hid (Below W.heap.size W w2) := HBV.out.trans (b2.mono HBV.out.size)
  have CH : Hid (∀ X, Below w2.heap.size w2 X → _) := fun X hX => iHeapOk_calls s0.v H X (hm_rd (hm_later HM2.out hX)) hs hf (hm_cap HM2.out) true (by simp; exact hok)
  rw [hsv] at CH
  obtain ⟨x0, x1, x2, x3⟩ := X4.cells
  have HC : Hid (∀ X, LS W X W.heap.size w1.heap.size s0 H (.slice none 0 0) (.slice none 0 0) [] [] → _) := fun X hX => hC W X W.heap.size w1.heap.size s0 hX
  unfold opV at HC
  clear hs hf hC hok
  go_wp2_with fail
  refine (CH.out _ (Below.refl _ _)).mono ?_
  rintro e w3 ⟨rfl, b3⟩
  clear x0 x1 x2 x3 CH
  have X5 := X4.later b3
  have HBV3 : Hid (Below W.heap.size W w3) := HBV2.out.trans (b3.mono HBV2.out.size)
  have HLS : Hid (LS W w3 W.heap.size w1.heap.size s0 H (.slice none 0 0) (.slice none 0 0) [] []) := ⟨HBV3.out, Nat.le_refl _, hm_later HM2.out b3, X5, hs1, HSX.out, .inl ⟨rfl, rfl⟩, ownI_nil _ _, fun g hg => (by simp [Value.ownBlock] at hg), fun g hg => (by simp [Value.ownBlock] at hg), fun g hg => (by simp [Value.ownBlock] at hg)⟩
  obtain ⟨k0, k1, k2, k3, k4⟩ := (H5.out.later HBV3.out).cells
  clear b2 CW HMV HBV HX4 X4 HM2 HBV2 H5 HSX X5 HBV3 b3 CR
  rcases hF with rfl | rfl | rfl | rfl | rfl | rfl | rfl
  all_goals
    go_wp2_with fail
    refine (HC.out _ HLS.out).mono ?_
    rintro e w4 ⟨s4, vf, rfl, L4⟩
    obtain ⟨fa, fc, rfl, -⟩ := rdI_own L4.f
    simp only at L4
    simp only [ansV]
    have hs4 := L4.bel.size
    have hgx4 := L4.x.lt
    obtain ⟨V5, hV5⟩ : ∃ V5, V5 = w4.alloc (.cells #[.int .i64 rc, .int .i64 rv, .slice fa rf.length fc] 38) := ⟨_, rfl⟩
    have b5 : Below w4.heap.size w4 V5 := by rw [hV5]; exact (Below.refl _ _).alloc (Nat.le_refl _) _
    have hs5 := b5.size
    have HG8 : Hid (Three V5 w4.heap.size (.int .i64 rc) (.int .i64 rv) (.slice fa rf.length fc)) := by rw [hV5]; exact Three.new _ _ _ _
    have HNE8 : Hid (w4.heap.size ≠ w.heap.size + 1 + 1) := by show _ ≠ _; omega
    have HB5 : Hid (Below W.heap.size W V5) := L4.bel.trans (b5.mono L4.bel.size)
    have HGX : Hid (Four V5 w1.heap.size (.slice s4.oa s4.os.length s4.oc) (.slice s4.wa s4.wn s4.wc) (.slice s4.ba s4.bn s4.bc) (.slice s4.sa s4.sn s4.sc)) := L4.x.later b5
    have HN0 : Hid (Four V5 (w.heap.size + 1 + 1) (.slice none 0 0) (.slice none 0 0) (.slice none 0 0) (.slice none 0 0)) := HFR.out.later HB5.out
    have HN1 : Hid (Three V5 (w.heap.size + 1 + 1 + 1) (.int .i64 0) (.int .i64 0) (.slice none 0 0)) := HFA.out.later HB5.out
    have HBEL : Hid (Below w.heap.size w V5) := HBW.out.trans (HB5.out.mono HBW.out.size)
    have HNE : Hid (w1.heap.size ≠ w.heap.size + 1 + 1) := by show _ ≠ _; omega
    have HCW : Hid (w.heap.size ≤ V5.heap.size) := HBEL.out.size
    have HCN : Hid (w.heap.size ≤ w.heap.size + 1 + 1) := by show _ ≤ _; omega
    have HBN : Hid (w.heap.size + 1 + 1 + 1 < W.heap.size) := by show _ < _; omega
    have HCB : Hid (w.heap.size ≤ W.heap.size) := by show _ ≤ _; omega
    have HMR : Hid (HM V5 W.heap.size s4 RH) := hm_later L4.m b5
    have HFR2 : Hid (ownI V5 W.heap.size (.slice fa rf.length fc) rf) := ownI_later L4.f b5
    have HDR : Hid (∀ g, (Value.slice fa rf.length fc).ownBlock = some g → ¬ HasB s4 g) := L4.sf
    clear HFR HFA HBW HLS HC L4 k0 k1 k2 k3 k4 b5 HB5 hnil
    generalize rf.length = rn at *
    go_wp2
    rw [← hV5]
    clear hV5
    refine wp_region_step 3 (by kernel_rfl) (by kernel_rfl) (RJ w V5 w.heap.size (w.heap.size + 1 + 1) (.slice s4.oa s4.os.length s4.oc) (.slice s4.wa s4.wn s4.wc) (.slice s4.ba s4.bn s4.bc) (.slice s4.sa s4.sn s4.sc)) (RQ2 (.agg #[.slice s4.oa s4.os.length s4.oc, .slice s4.wa s4.wn s4.wc, .slice s4.ba s4.bn s4.bc, .slice s4.sa s4.sn s4.sc]) (.agg #[.int .i64 rc, .int .i64 rv, .slice fa rn fc])) (fun _ _ _ _ => True) ⟨HBEL.out.drew, Nat.le_refl _, fun _ _ _ => rfl, fun _ => HN0.out, fun h => h.elim⟩ ?_ ?_
    · intro i o_ hi ho a Y dn hJ hA hbn hnot hdep
      match i, hi, ho with
      | 0, _, ho =>
        obtain rfl := Option.some.inj ho
        exact opLoadHw (alike_at hA (t := 6) (by kernel_rfl)) (HGX.out.same (hJ.oth _ HNE.out HGX.out.lt)) ⟨_, rfl, hJ.later HCW.out (by decide) (Below.refl _ _), rfl, fun q hq _ t ht => ⟨hbn.yields q hq t ht, trivial, trivial⟩⟩
      | 1, _, ho =>
        obtain rfl := Option.some.inj ho
        exact opLoadAn (alike_at hA (t := 8) (by kernel_rfl)) (HG8.out.same (hJ.oth _ HNE8.out HG8.out.lt)) ⟨_, rfl, hJ.later HCW.out (by decide) (Below.refl _ _), rfl, fun q hq _ t ht => ⟨hbn.yields q hq t ht, trivial, trivial⟩⟩
      | 2, _, ho =>
        obtain rfl := Option.some.inj ho
        have g0_ : a.eval (.tmp 26) = .agg #[.slice s4.oa s4.os.length s4.oc, .slice s4.wa s4.wn s4.wc, .slice s4.ba s4.bn s4.bc, .slice s4.sa s4.sn s4.sc] := hbn.yields 0 (hdep ⟨0, .data⟩ (by simp) rfl) 26 rfl
        refine opStoreH (alike_at hA (t := 4) (by kernel_rfl)) g0_ (hJ.f0 hnot) ?_
        refine ⟨undef, rfl, ⟨?_, by rw [setFour_size]; exact hJ.ge, fun j hj hl => (setFour_other _ _ _ _ _ _ j hj).trans (hJ.oth j hj hl), fun h => absurd (.inr rfl) h, fun _ => Four.setAll (hJ.f0 hnot) _ _ _ _⟩, trivial, fun q hq hne t ht => ⟨?_, trivial, trivial⟩⟩
        · unfold setFour
          iterate 4 refine Below.setCell ?_ (by simp only; exact HCN.out) _
          exact hJ.bel
        · have hy := hbn.yields q hq t ht
          match q, hy with
          | 0, hy => exact hy
          | 1, hy => exact hy
          | n + 2, _ => exact trivial
    · intro o_ ho a Y dn hJ hA hbn hdn
      obtain rfl := Option.some.inj ho
      have g1_ : a.eval (.tmp 27) = .agg #[.int .i64 rc, .int .i64 rv, .slice fa rn fc] := hbn.yields 1 (hdn 1 (by omega)) 27 rfl
      have T1 : Three Y ((w.heap.size + 1 + 1) + 1) (.int .i64 0) (.int .i64 0) (.slice none 0 0) := HN1.out.same (hJ.oth _ (by omega) HN1.out.lt)
      refine opStoreAn (alike_at hA (t := 5) (by kernel_rfl)) g1_ T1 ?_
      have F1 := hJ.f1 (hdn 2 (by omega))
      obtain ⟨Z, hZ⟩ : ∃ Z, Z = setThree Y ((w.heap.size + 1 + 1) + 1) (.int .i64 rc) (.int .i64 rv) (.slice fa rn fc) := ⟨_, rfl⟩
      have FZ : Four Z ((w.heap.size + 1 + 1)) (.slice s4.oa s4.os.length s4.oc) (.slice s4.wa s4.wn s4.wc) (.slice s4.ba s4.bn s4.bc) (.slice s4.sa s4.sn s4.sc) := by rw [hZ]; exact F1.same (setThree_other _ _ _ _ _ _ (by omega))
      have TZ : Three Z ((w.heap.size + 1 + 1) + 1) (.int .i64 rc) (.int .i64 rv) (.slice fa rn fc) := by
        rw [hZ]; unfold setThree
        exact heap_setCell_same _ _ 2 _ _ _ (heap_setCell_same _ _ 1 _ _ _ (heap_setCell_same _ _ 0 _ _ _ T1))
      have HXZ : Hid (SpecPost w w.heap.size (RH, ⟨rc, rv, rf⟩) (.returned (.tuple #[.agg #[.slice s4.oa s4.os.length s4.oc, .slice s4.wa s4.wn s4.wc, .slice s4.ba s4.bn s4.bc, .slice s4.sa s4.sn s4.sc], ansV rc rv (.slice fa rn fc)])) Z) := by
        refine app_end (n := (w.heap.size + 1 + 1)) HBN.out HCB.out ?_ ?_ (fun g hg hl => ?_) HMR.out HFR2.out HDR.out
        · rw [hZ]; unfold setThree
          iterate 3 refine Below.setCell ?_ (by simp only; have := HCN.out; omega) _
          exact hJ.bel
        · rw [hZ, setThree_size]; exact hJ.ge
        · rw [hZ, setThree_other _ _ _ _ _ g (by omega)]; exact hJ.oth g (by omega) hl
      rw [← hZ]
      obtain ⟨us, hus, rfl⟩ := alike_tmps hA [26, 27] (by kernel_rfl)
      clear hbn hdn hA hus g1_ hJ ho F1 T1 hZ
      simp only [List.mapIdx_cons, List.mapIdx_nil, Nat.reduceAdd, List.contains_cons, List.contains_nil, Nat.reduceBEq, Bool.or_false, Bool.or_true, if_true, if_false, Bool.false_eq_true]
      obtain ⟨r0, r1, r2, r3⟩ := FZ.cells
      obtain ⟨q0, q1, q2⟩ := TZ.cells
      clear FZ TZ HGX HN0 HN1 HBEL HNE HCW HCN HBN HCB HMR HFR2 HDR
      go_wp2
      exact bodyPost_ret (v := .tuple #[.agg #[.slice s4.oa s4.os.length s4.oc, .slice s4.wa s4.wn s4.wc, .slice s4.ba s4.bn s4.bc, .slice s4.sa s4.sn s4.sc], ansV rc rv (.slice fa rn fc)]) (by simp [results, Try.results10, go_sem, ansV, *]) rfl HXZ.out

end Go.Proofs.Ytjhdnachbahbmaa

namespace Go.Proofs.Ytjhdnachbahbmaa
open Go.RowKit
set_option linter.unusedVariables false
set_option maxRecDepth 100000

theorem ok_obj {H : HeapD} (hok : OkH H) (k : Nat) (hk : k < H.objs.length) : (0 ≤ H.objs[k].gen ∧ H.objs[k].gen ≤ 999) ∧ H.objs[k].field.length = 3 := (hok.objs k hk).1
theorem ok_live {H : HeapD} (hok : OkH H) (k : Nat) (hk : k < H.objs.length) (hl : H.objs[k].live = true) : (0 ≤ H.objs[k].holds ∧ H.objs[k].holds ≤ 20) ∧ (0 ≤ H.objs[k].roots ∧ H.objs[k].roots ≤ 20) := by
  have h := (hok.objs k hk).2.2 hl
  exact ⟨h.1.2.2.1, h.1.2.2.2⟩
theorem wf_fields {H : HeapD} (hf : WfH H) : ∀ z ∈ H.objs, ∀ x ∈ z.field, in64 x := fun z hz => (hf.objs z hz).2.2.2.2.2

/-- What a work is asked at. -/
structure WorkHyp (H : HeapD) (o : OpD) : Prop where
  s : SmallH H
  f : WfH H
  sane : SaneOp o
  ok : OkH H
  sl : o.site.length ≤ 1048576

theorem iWork_alloc {H : HeapD} {o : OpD} (h : WorkHyp H o) (hk : o.kind = 1) : ∀ W X B gx s, LS W X B gx s H (.slice none 0 0) (.slice none 0 0) [] [] → Calls Try.prog 24 #[opV o, .pointer (some ⟨gx, 0, none⟩)] X fun e w' => ImplPost W B gx (workR H o) e w' := by
  intro W X B gx s hL
  have e : workR H o = allocR H o.site := by unfold workR; rw [if_pos hk]
  rw [e]
  by_cases hl : o.site.length < 1 ∨ 8 < o.site.length
  · exact opAlloc_1 W X B gx s H o hL h.s h.sl hl
  · by_cases hz : freeZ H < 0
    · exact opAlloc_2 W X B gx s H o hL h.s h.sl (by omega) hz
    · obtain ⟨k, hkl, ek, hk8, _, hg⟩ := freeZ_yes H hz
      have hge := (ok_obj h.ok k hkl).1
      have h6 := h.ok.size.2.2
      by_cases hs : siteZ H o.site < 0
      · by_cases h7 : H.sites.length = 6
        · exact opAlloc_3 W X B gx s H o hL h.s h.sl (by omega) k hkl hk8 ek h6 ⟨hge.1, hg⟩ hs h7
        · exact opAlloc_4 W X B gx s H o hL h.s h.sl (by omega) k hkl hk8 ek h6 ⟨hge.1, hg⟩ hs (by omega)
      · exact opAlloc_5 W X B gx s H o hL h.s h.sl (by omega) k hkl hk8 ek h6 ⟨hge.1, hg⟩ (by omega)
theorem iWork_keep {H : HeapD} {o : OpD} (h : WorkHyp H o) (hk : o.kind = 2 ∨ o.kind = 3 ∨ o.kind = 5 ∨ o.kind = 6) : ∀ W X B gx s, LS W X B gx s H (.slice none 0 0) (.slice none 0 0) [] [] → Calls Try.prog 25 #[opV o, .pointer (some ⟨gx, 0, none⟩)] X fun e w' => ImplPost W B gx (workR H o) e w' := by
  intro W X B gx s hL
  have e : workR H o = holdR H o.kind o.a := by unfold workR; rw [if_neg (by omega), if_pos hk]
  rw [e]
  have hw := wf_fields h.f
  by_cases hz : slotZ H o.a < 0
  · exact opKeep_no W X B gx s H o hL h.s h.sane.a hz
  · obtain ⟨k, hkl, ek, hk8, hlv, _⟩ := slotZ_yes H o.a (by omega)
    obtain ⟨h1, h2⟩ := ok_live h.ok k hkl hlv
    rcases hk with e2 | e2 | e2 | e2
    · rw [e2]; exact opKeep_up 2 3 (.inl ⟨rfl, rfl⟩) _ _ W X B gx s H o hL h.s e2 h.sane.a hw k hkl ek hk8 hlv (times_holds H k hkl) (holdR_at hkl ek).1 (holdR_at hkl ek).2.1 h1
    · rw [e2]; exact opKeep_down 3 3 (.inl ⟨rfl, rfl⟩) _ _ W X B gx s H o hL h.s e2 h.sane.a hw k hkl ek hk8 hlv (times_holds H k hkl) (holdR_at hkl ek).2.2.2.2.1 (holdR_at hkl ek).2.2.2.2.2.1 h1
    · rw [e2]; exact opKeep_up 5 4 (.inr ⟨rfl, rfl⟩) _ _ W X B gx s H o hL h.s e2 h.sane.a hw k hkl ek hk8 hlv (times_roots H k hkl) (holdR_at hkl ek).2.2.1 (holdR_at hkl ek).2.2.2.1 h2
    · rw [e2]; exact opKeep_down 6 4 (.inr ⟨rfl, rfl⟩) _ _ W X B gx s H o hL h.s e2 h.sane.a hw k hkl ek hk8 hlv (times_roots H k hkl) (holdR_at hkl ek).2.2.2.2.2.2.1 (holdR_at hkl ek).2.2.2.2.2.2.2 h2
theorem iWork_store {H : HeapD} {o : OpD} (h : WorkHyp H o) (hk : o.kind = 4) : ∀ W X B gx s, LS W X B gx s H (.slice none 0 0) (.slice none 0 0) [] [] → Calls Try.prog 26 #[opV o, .pointer (some ⟨gx, 0, none⟩)] X fun e w' => ImplPost W B gx (workR H o) e w' := by
  intro W X B gx s hL
  have e : workR H o = storeR H o.a o.b o.c := by unfold workR; rw [if_neg (by omega), if_neg (by omega), if_pos hk]
  rw [e]
  have hw := wf_fields h.f
  by_cases hz : slotZ H o.a < 0
  · exact opStore_1 W X B gx s H o hL h.s h.sane.a h.sane.b h.sane.c hz
  · obtain ⟨k, hkl, ek, hk8, hlv, _⟩ := slotZ_yes H o.a (by omega)
    have hfl := (ok_obj h.ok k hkl).2
    by_cases hc : o.c = -1
    · by_cases hb : o.b < 0 ∨ 2 < o.b
      · exact opStore_3n W X B gx s H o hL h.s h.sane.a h.sane.b h.sane.c (by omega) hc hb
      · exact opStore_4 W X B gx s H o hL h.s h.sane.a h.sane.b h.sane.c hw k hkl hk8 hlv hfl ek (.inl hc) o.b.toNat (by omega) (by omega)
    · by_cases hzc : slotZ H o.c < 0
      · exact opStore_2 W X B gx s H o hL h.s h.sane.a h.sane.b h.sane.c (by omega) hc hzc
      · by_cases hb : o.b < 0 ∨ 2 < o.b
        · exact opStore_3y W X B gx s H o hL h.s h.sane.a h.sane.b h.sane.c (by omega) hc (by omega) hb
        · exact opStore_4 W X B gx s H o hL h.s h.sane.a h.sane.b h.sane.c hw k hkl hk8 hlv hfl ek (.inr ⟨hc, by omega⟩) o.b.toNat (by omega) (by omega)

theorem workV_no {k : Int} (h : k < 1 ∨ 10 < k) : workV k = .nilFunc := by
  unfold workV
  iterate 7 rw [if_neg (by omega)]
theorem workR_no {H : HeapD} {o : OpD} (h : o.kind < 1 ∨ 10 < o.kind) : workR H o = refR H 2 := by
  unfold workR
  iterate 7 rw [if_neg (by omega)]
/-- What Apply answers, q saying whether the heap is right. -/
def appR (q : Bool) (H : HeapD) (o : OpD) : HeapD × AnsD := if q = true then workR H o else refR H 2

theorem iApply_calls (v : Value) (H : HeapD) (o : OpD) (w : World) (h : RdH w v H) (hs : SmallH H) (hf : WfH H) (ho : SaneOp o) (hsl : o.site.length ≤ 1048576) (q : Bool) (hq : q = true ↔ OkH H) :
    Calls Try.prog 10 #[v, opV o] w fun e w' => SpecPost w w.heap.size (appR q H o) e w' := by
  by_cases hk : o.kind < 1 ∨ 10 < o.kind
  · have e : appR q H o = refR H 2 := by
      unfold appR
      split
      · exact workR_no hk
      · rfl
    rw [e]
    exact iApply_bad v H o w h hs ho.kind (workV_no hk)
  · cases q with
    | false =>
      have hno : ¬ OkH H := fun hh => by have := hq.2 hh; cases this
      show Calls _ _ _ _ fun e w' => SpecPost w w.heap.size (refR H 2) e w'
      have hc : o.kind = 1 ∨ (o.kind = 2 ∨ o.kind = 3 ∨ o.kind = 5 ∨ o.kind = 6) ∨ o.kind = 4 ∨ o.kind = 7 ∨ o.kind = 8 ∨ o.kind = 9 ∨ o.kind = 10 := by omega
      rcases hc with e | e | e | e | e | e | e
      · exact iApply_no _ v H o w h hs hf ho.kind (by unfold workV; rw [if_pos e]) (fun _ => by kernel_rfl) hno
      · exact iApply_no _ v H o w h hs hf ho.kind (by unfold workV; rw [if_neg (by omega), if_pos e]) (fun _ => by kernel_rfl) hno
      · exact iApply_no _ v H o w h hs hf ho.kind (by unfold workV; rw [if_neg (by omega), if_neg (by omega), if_pos e]) (fun _ => by kernel_rfl) hno
      · exact iApply_no _ v H o w h hs hf ho.kind (by unfold workV; rw [if_neg (by omega), if_neg (by omega), if_neg (by omega), if_pos e]) (fun _ => by kernel_rfl) hno
      · exact iApply_no _ v H o w h hs hf ho.kind (by unfold workV; rw [if_neg (by omega), if_neg (by omega), if_neg (by omega), if_neg (by omega), if_pos e]) (fun _ => by kernel_rfl) hno
      · exact iApply_no _ v H o w h hs hf ho.kind (by unfold workV; rw [if_neg (by omega), if_neg (by omega), if_neg (by omega), if_neg (by omega), if_neg (by omega), if_pos e]) (fun _ => by kernel_rfl) hno
      · exact iApply_no _ v H o w h hs hf ho.kind (by unfold workV; rw [if_neg (by omega), if_neg (by omega), if_neg (by omega), if_neg (by omega), if_neg (by omega), if_neg (by omega), if_pos e]) (fun _ => by kernel_rfl) hno
    | true =>
      have hok : OkH H := hq.1 rfl
      have hW : WorkHyp H o := ⟨hs, hf, ho, hok, hsl⟩
      show Calls _ _ _ _ fun e w' => SpecPost w w.heap.size (workR H o) e w'
      have hc : o.kind = 1 ∨ (o.kind = 2 ∨ o.kind = 3 ∨ o.kind = 5 ∨ o.kind = 6) ∨ o.kind = 4 ∨ o.kind = 7 ∨ o.kind = 8 ∨ o.kind = 9 ∨ o.kind = 10 := by omega
      rcases hc with e | e | e | e | e | e | e
      · exact iApply_do _ (.inl rfl) v H o _ w h hs hf ho.kind (by unfold workV; rw [if_pos e]) hok (iWork_alloc hW e)
      · exact iApply_do _ (.inr (.inl rfl)) v H o _ w h hs hf ho.kind (by unfold workV; rw [if_neg (by omega), if_pos e]) hok (iWork_keep hW e)
      · exact iApply_do _ (.inr (.inr (.inl rfl))) v H o _ w h hs hf ho.kind (by unfold workV; rw [if_neg (by omega), if_neg (by omega), if_pos e]) hok (iWork_store hW e)
      · have e2 : workR H o = weakR H o.a := by unfold workR; rw [if_neg (by omega), if_neg (by omega), if_neg (by omega), if_pos e]
        rw [e2]
        exact iApply_do _ (.inr (.inr (.inr (.inl rfl)))) v H o _ w h hs hf ho.kind (by unfold workV; rw [if_neg (by omega), if_neg (by omega), if_neg (by omega), if_pos e]) hok (fun W X B gx s hL => opWeak_calls W X B gx s H o hL hs ho.a)
      · have e2 : workR H o = loadR H o.a := by unfold workR; rw [if_neg (by omega), if_neg (by omega), if_neg (by omega), if_neg (by omega), if_pos e]
        rw [e2]
        exact iApply_do _ (.inr (.inr (.inr (.inr (.inl rfl))))) v H o _ w h hs hf ho.kind (by unfold workV; rw [if_neg (by omega), if_neg (by omega), if_neg (by omega), if_neg (by omega), if_pos e]) hok (fun W X B gx s hL => opLoad_calls W X B gx s H o hL hs hf.weaks)
      · have e2 : workR H o = dropR H o.a := by unfold workR; rw [if_neg (by omega), if_neg (by omega), if_neg (by omega), if_neg (by omega), if_neg (by omega), if_pos e]
        rw [e2]
        exact iApply_do _ (.inr (.inr (.inr (.inr (.inr (.inl rfl)))))) v H o _ w h hs hf ho.kind (by unfold workV; rw [if_neg (by omega), if_neg (by omega), if_neg (by omega), if_neg (by omega), if_neg (by omega), if_pos e]) hok (fun W X B gx s hL => opDrop_calls W X B gx s H o hL hs hf.weaks)
      · have e2 : workR H o = (collH H, ⟨0, 0, collF H⟩) := by unfold workR; rw [if_neg (by omega), if_neg (by omega), if_neg (by omega), if_neg (by omega), if_neg (by omega), if_neg (by omega), if_pos e]
        rw [e2]
        exact iApply_do _ (.inr (.inr (.inr (.inr (.inr (.inr (rfl))))))) v H o _ w h hs hf ho.kind (by unfold workV; rw [if_neg (by omega), if_neg (by omega), if_neg (by omega), if_neg (by omega), if_neg (by omega), if_neg (by omega), if_pos e]) hok (fun W X B gx s hL => opCollect_calls W X B gx s H o hL hs hok.size.1 (wf_fields hf) hf.buffer)

end Go.Proofs.Ytjhdnachbahbmaa

namespace Go.Proofs.Ytjhdnachbahbmaa
open Go.RowKit
set_option linter.unusedVariables false
set_option maxRecDepth 100000

theorem nodup_le : ∀ (n : Nat) (l : List Nat), l.Nodup → (∀ x ∈ l, x < n) → l.length ≤ n := by
  intro n
  induction n with
  | zero =>
    intro l _ h
    cases l with
    | nil => simp
    | cons a r => exact absurd (h a (List.mem_cons_self ..)) (by omega)
  | succ n ih =>
    intro l hn h
    by_cases hm : n ∈ l
    · have e := List.length_erase_of_mem hm
      have := ih (l.erase n) (hn.erase n) (fun x hx => by
        obtain ⟨h1, h2⟩ := (List.Nodup.mem_erase_iff hn).1 hx
        have := h x h2
        omega)
      omega
    · have := ih l hn (fun x hx => by
        have h1 := h x hx
        have h2 : x ≠ n := fun e => hm (e ▸ hx)
        omega)
      omega
/-- No more wait for a trial than there are slots. -/
theorem buf_le {H : HeapD} (h : JH H []) : H.buffer.length ≤ 8 := by
  have hm : (H.buffer.map (fun x => (slotZ H x).toNat)).Nodup := by
    unfold List.Nodup
    rw [List.pairwise_map]
    refine List.Pairwise.imp_of_mem ?_ h.bufN
    intro a b ha hb hne e
    obtain ⟨k, hk, ek, -, -, -, ea, -⟩ := slot_inv (h.bufS a ha)
    obtain ⟨j, hj, ej, -, -, -, eb, -⟩ := slot_inv (h.bufS b hb)
    rw [ek, ej] at e
    obtain rfl : k = j := by omega
    exact hne (ea.trans eb.symm)
  have := nodup_le 8 _ hm (fun x hx => by
    obtain ⟨a, ha, rfl⟩ := List.mem_map.1 hx
    obtain ⟨k, hk, ek, k8, -⟩ := slot_inv (h.bufS a ha)
    rw [ek]; omega)
  simpa using this
theorem in64_low {z : Int} (h0 : -1 ≤ z) (h1 : z ≤ 100000) : in64 z := ⟨by omega, by omega⟩
theorem ok_small {H : HeapD} (h : OkH H) : SmallH H := by
  have hJ := jh_of_ok h
  refine ⟨by rw [h.size.1]; omega, fun z hz => ?_, by rw [h.size.2.1]; omega, by have := buf_le hJ; omega, by have := h.size.2.2; omega, fun z hz => ?_⟩
  · obtain ⟨i, hi, rfl⟩ := List.getElem_of_mem hz
    rw [(h.objs i hi).1.2]; omega
  · obtain ⟨i, hi, rfl⟩ := List.getElem_of_mem hz
    have := (h.sites i hi).1
    omega
theorem ok_wfo {H : HeapD} (h : OkH H) (i : Nat) (hi : i < H.objs.length) : WfO H.objs[i] := by
  have hJ := jh_of_ok h
  obtain ⟨m1, m2, m3⟩ := h.objs i hi
  cases hl : H.objs[i].live with
  | false =>
    obtain ⟨d1, d2, d3, d4, d5, d6⟩ := m2 hl
    refine ⟨in64_low (by omega) (by omega), in64_low (by omega) (by omega), in64_low (by omega) (by omega), in64_low (by omega) (by omega), in64_low (by omega) (by omega), fun z hz => ?_⟩
    obtain ⟨q, hq, rfl⟩ := List.getElem_of_mem hz
    rw [d6 q hq]; exact in64_low (by omega) (by omega)
  | true =>
    obtain ⟨⟨g1, g2, g3, g4⟩, l2, l3, l4, l5⟩ := m3 hl
    obtain ⟨c1, c2⟩ := count_small hJ hi hl
    have hs := h.size.2.2
    rw [List.length_nil] at c2
    refine ⟨in64_low (by omega) (by omega), in64_low (by omega) (by omega), in64_low (by omega) (by omega), in64_low (by omega) (by omega), in64_low (by omega) (by omega), fun z hz => ?_⟩
    obtain ⟨q, hq, rfl⟩ := List.getElem_of_mem hz
    rcases l2 q hq with e | e
    · rw [e]; exact in64_low (by omega) (by omega)
    · obtain ⟨k, hk, ek, k8, hlk, -, eq, b8⟩ := slot_inv e
      have := (h.objs k hk).1.1.2
      exact in64_low (by omega) (by omega)
theorem ok_wf {H : HeapD} (h : OkH H) : WfH H := by
  have hJ := jh_of_ok h
  refine ⟨fun o ho => ?_, fun d hd => ?_, fun z hz => ?_⟩
  · obtain ⟨i, hi, rfl⟩ := List.getElem_of_mem ho
    exact ok_wfo h i hi
  · obtain ⟨i, hi, rfl⟩ := List.getElem_of_mem hd
    obtain ⟨w1, w2⟩ := h.weaks i hi
    cases hu : H.weaks[i].used with
    | false => rw [w1 hu]; exact in64_low (by omega) (by omega)
    | true => have := w2 hu; exact in64_low (by omega) (by omega)
  · obtain ⟨k, hk, ek, k8, -, -, e, b8⟩ := slot_inv (hJ.bufS z hz)
    have := (h.objs k hk).1.1.2
    exact in64_low (by omega) (by omega)

/-- Small, and its numbers are ints. -/
structure FitH (H : HeapD) : Prop where
  s : SmallH H
  f : WfH H
theorem fit_of_ok {H : HeapD} (h : OkH H) : FitH H := ⟨ok_small h, ok_wf h⟩
theorem wrap_in64 (x : Int) : in64 (IntKind.i64.wrap x) := by
  rw [IntKind.wrap_i64]
  exact ⟨by omega, by omega⟩
theorem coll_fit {H : HeapD} (h : OkH H) : FitH (collH H) := by
  have hs := ok_small h
  have hlen : (collH H).objs.length = H.objs.length := by simp [collH, coll1]
  have hat : ∀ i (hi : i < H.objs.length), ((collH H).objs[i]'(by rw [hlen]; exact hi)).field.length = 3 ∧ WfO ((collH H).objs[i]'(by rw [hlen]; exact hi)) := fun i hi => by
    have e : (collH H).objs[i]'(by rw [hlen]; exact hi) = made2 (coll1 H) i (collO (suspT H) i H.objs[i]) := by simp [collH, coll1]
    rw [e]
    have hw := ok_wfo h i hi
    have hc : (collO (suspT H) i H.objs[i]).field.length = 3 ∧ WfO (collO (suspT H) i H.objs[i]) := by
      unfold collO
      split
      · exact ⟨rfl, hw.1, in64_low (by simp [emptyD]) (by simp [emptyD]), in64_low (by simp [emptyD]) (by simp [emptyD]), in64_low (by simp [emptyD]) (by simp [emptyD]), in64_low (by simp [emptyD]) (by simp [emptyD]), fun z hz => by
          have : z = -1 := by simpa [emptyD] using hz
          rw [this]; exact in64_low (by omega) (by omega)⟩
      · exact ⟨(h.objs i hi).1.2, hw⟩
    unfold made2
    split
    · exact ⟨hc.1, hc.2.1, hc.2.2.1, hc.2.2.2.1, hc.2.2.2.2.1, wrap_in64 _, hc.2.2.2.2.2.2⟩
    · exact hc
  refine ⟨⟨by rw [hlen]; exact hs.objs, fun z hz => ?_, hs.weaks, by simp [collH], hs.sites, hs.names⟩, ⟨fun z hz => ?_, (ok_wf h).weaks, fun z hz => by simp [collH] at hz⟩⟩
  · obtain ⟨i, hi, rfl⟩ := List.getElem_of_mem hz
    rw [(hat i (by rw [← hlen]; exact hi)).1]; omega
  · obtain ⟨i, hi, rfl⟩ := List.getElem_of_mem hz
    exact (hat i (by rw [← hlen]; exact hi)).2

/-- Whatever is done but a collection, a right heap stays right. -/
theorem work_right {H : HeapD} (h : OkH H) {o : OpD} (ho : SaneOp o) (hk : o.kind ≠ 10) : OkH (workR H o).1 := by
  have hs := ok_small h
  have hw : ∀ z ∈ H.objs, ∀ x ∈ z.field, in64 x := fun z hz => ((ok_wf h).objs z hz).2.2.2.2.2
  unfold workR
  split
  · exact alloc_right h _
  · split
    · exact hold_right h hs hw _ _ ho.a
    · split
      · exact store_right h hs hw _ _ _ ho.c
      · split
        · unfold weakR
          split
          · exact h
          · split
            · exact h
            · rename_i hz _
              obtain ⟨k, hk, ek, -⟩ := slot_inv (H := H) (id := o.a) (by omega)
              obtain ⟨-, -, b1, b2⟩ := id_live (jh_of_ok h) hk ek
              exact weak_right h _ _ ⟨fun e => (by cases e), fun _ => ⟨b1, b2⟩⟩
        · split
          · unfold loadR; split <;> exact h
          · split
            · unfold dropR
              split
              · exact h
              · exact weak_right h _ _ ⟨fun _ => rfl, fun e => (by cases e)⟩
            · exact h
theorem work_fit {H : HeapD} (h : OkH H) {o : OpD} (ho : SaneOp o) : FitH (workR H o).1 := by
  by_cases hk : o.kind = 10
  · have e : (workR H o).1 = collH H := by unfold workR; simp [hk]
    rw [e]; exact coll_fit h
  · exact fit_of_ok (work_right h ho hk)
theorem app_fit {H : HeapD} (h : FitH H) {o : OpD} (ho : SaneOp o) {q : Bool} (hq : q = true ↔ OkH H) : FitH (appR q H o).1 := by
  unfold appR
  split
  · rename_i e; exact work_fit (hq.1 e) ho
  · exact h

/-- What a play answers, operation by operation. -/
def PlayD : HeapD → List OpD → HeapD → List AnsD → Prop
  | H, [], G, av => G = H ∧ av = []
  | H, o :: r, G, av => ∃ q : Bool, (q = true ↔ OkH H) ∧ ∃ bs, av = (appR q H o).2 :: bs ∧ PlayD (appR q H o).1 r G bs
theorem play_snoc {o : OpD} {q : Bool} : ∀ {l : List OpD} {H G : HeapD} {av : List AnsD}, PlayD H l G av → (q = true ↔ OkH G) → PlayD H (l ++ [o]) (appR q G o).1 (av ++ [(appR q G o).2]) := by
  intro l
  induction l with
  | nil =>
    intro H G av h hq
    obtain ⟨rfl, rfl⟩ := h
    exact ⟨q, hq, [], rfl, rfl, rfl⟩
  | cons a r ih =>
    intro H G av h hq
    obtain ⟨p, hp, bs, rfl, h2⟩ := h
    exact ⟨p, hp, bs ++ [(appR q G o).2], rfl, ih h2 hq⟩
theorem play_one : ∀ {l : List OpD} {H G K : HeapD} {av bs : List AnsD}, PlayD H l G av → PlayD H l K bs → G = K ∧ av = bs := by
  intro l
  induction l with
  | nil =>
    intro H G K av bs h1 h2
    obtain ⟨rfl, rfl⟩ := h1
    obtain ⟨rfl, rfl⟩ := h2
    exact ⟨rfl, rfl⟩
  | cons a r ih =>
    intro H G K av bs h1 h2
    obtain ⟨p, hp, cs, rfl, h3⟩ := h1
    obtain ⟨q, hq, ds, rfl, h4⟩ := h2
    obtain rfl : p = q := by
      cases p with
      | true => exact (hq.2 (hp.1 rfl)).symm
      | false =>
        cases q with
        | true => exact hp.2 (hq.1 rfl)
        | false => rfl
    obtain ⟨e1, e2⟩ := ih h3 h4
    exact ⟨e1, by rw [e2]⟩

end Go.Proofs.Ytjhdnachbahbmaa

namespace Go.Proofs.Ytjhdnachbahbmaa
open Go.RowKit
set_option linter.unusedVariables false
set_option maxRecDepth 100000

theorem inO_kid {H : HeapD} {todo : List Int} (h : JH H todo) {j : Nat} (hj : j < H.objs.length) (hl : H.objs[j].live = true) {n : Nat} (hi : n < H.objs.length) : inO (idZ (j : Int) H.objs[j].gen) H.objs[n] = kidC H j n := by
  unfold kidC kidsOf inO
  rw [show ((n : Int)).toNat = n from by omega, List.getElem?_eq_getElem hi]
  simp only
  rw [kidL_count H j _ (slot_id h hj hl)]
  split
  · rfl
  · rename_i hd
    obtain ⟨m1, m2, -⟩ := h.objs n hi
    have hd2 : H.objs[n].live = false := by cases e : H.objs[n].live with
      | true => exact absurd e hd
      | false => rfl
    obtain ⟨-, -, -, -, -, d6⟩ := m2 hd2
    obtain ⟨k1, -, k3⟩ := h.objs j hj
    have := h.size.1
    refine (List.count_eq_zero.2 (fun hm => ?_)).symm
    obtain ⟨q, hq, e⟩ := List.getElem_of_mem hm
    rw [d6 q hq, idZ_live (by omega) (k3 hl).1.1 k1.1.2] at e
    omega
theorem inE_of (id : Int) (f : Nat → Nat) (p : Nat → Bool) (os : List ObjD) (h8 : os.length = 8) (h : ∀ i (hi : i < os.length), inO id os[i] = if p i = true then f i else 0) : inE id os = sumP f p 8 := by
  have key : ∀ n, n ≤ 8 → inE id (os.take n) = sumP f p n := by
    intro n
    induction n with
    | zero => intro _; rfl
    | succ n ih =>
      intro hn
      rw [inE_succ _ _ n (by omega), ih (by omega), h n (by omega)]
      rfl
  have := key 8 (Nat.le_refl _)
  rw [List.take_of_length_le (by omega)] at this
  exact this
theorem collO_at (H : HeapD) (i : Nat) (o : ObjD) : collO (suspT H) i o = if isW (suspT H) i = true then emptyD o.gen else { o with purple := false } := rfl

theorem made2_in (id : Int) (G : HeapD) (i : Nat) (o : ObjD) : inO id (made2 G i o) = inO id o := by
  unfold made2
  split <;> rfl

theorem coll_right {H : HeapD} (h : OkH H) : OkH (collH H) := by
  have hJ := jh_of_ok h
  have hs := ok_small h
  have h8 := h.size.1
  obtain ⟨W, hW⟩ := white_ok hJ hs
  have len1 : (coll1 H).objs.length = H.objs.length := by simp [coll1]
  have len2 : (collH H).objs.length = H.objs.length := by simp [collH, coll1]
  have at1 : ∀ i (hi : i < H.objs.length), (coll1 H).objs[i]'(by rw [len1]; exact hi) = if W i = true then emptyD H.objs[i].gen else { H.objs[i] with purple := false } := fun i hi => by
    have e : (coll1 H).objs[i]'(by rw [len1]; exact hi) = collO (suspT H) i H.objs[i] := by simp [coll1]
    rw [e, collO_at, hW.is i (by omega)]
  have at2 : ∀ i (hi : i < H.objs.length), (collH H).objs[i]'(by rw [len2]; exact hi) = made2 (coll1 H) i (if W i = true then emptyD H.objs[i].gen else { H.objs[i] with purple := false }) := fun i hi => by
    have e : (collH H).objs[i]'(by rw [len2]; exact hi) = made2 (coll1 H) i ((coll1 H).objs[i]'(by rw [len1]; exact hi)) := by simp [collH]
    rw [e, at1 i hi]
  have in1 : ∀ {j : Nat} (hj : j < H.objs.length), H.objs[j].live = true → ∀ i (hi : i < H.objs.length), inO (idZ (j : Int) H.objs[j].gen) (if W i = true then emptyD H.objs[i].gen else { H.objs[i] with purple := false }) = if (!W i) = true then kidC H j i else 0 := fun {j} hj hl i hi => by
    cases hw : W i with
    | true => rfl
    | false =>
      show inO _ { H.objs[i] with purple := false } = kidC H j i
      rw [← inO_kid hJ hj hl hi]
      rfl
  have sum1 : ∀ {j : Nat} (hj : j < H.objs.length), H.objs[j].live = true → inE (idZ (j : Int) H.objs[j].gen) (coll1 H).objs = sumP (kidC H j) (fun i => !W i) 8 := fun {j} hj hl =>
    inE_of _ _ _ _ (by rw [len1]; exact h8) (fun i hi => by
      have hi2 : i < H.objs.length := by rw [← len1]; exact hi
      rw [at1 i hi2]; exact in1 hj hl i hi2)
  have sum2 : ∀ {j : Nat} (hj : j < H.objs.length), H.objs[j].live = true → inE (idZ (j : Int) H.objs[j].gen) (collH H).objs = sumP (kidC H j) (fun i => !W i) 8 := fun {j} hj hl =>
    inE_of _ _ _ _ (by rw [len2]; exact h8) (fun i hi => by
      have hi2 : i < H.objs.length := by rw [← len2]; exact hi
      rw [at2 i hi2, ← in1 hj hl i hi2]
      exact made2_in _ _ _ _)
  have live2 : ∀ k (hk : k < H.objs.length), H.objs[k].live = true → W k = false → ∀ hk2 : k < (collH H).objs.length, (collH H).objs[k].live = true ∧ (collH H).objs[k].gen = H.objs[k].gen := fun k hk hl hw hk2 => by
    rw [at2 k hk, hw]
    simp only [Bool.false_eq_true, if_false]
    unfold made2
    rw [if_pos (by exact hl)]
    exact ⟨hl, rfl⟩
  refine ok_of_jh ⟨⟨by rw [len2]; exact h8, h.size.2⟩, fun i hi => ?_, h.weaks, fun x hx => by simp [collH] at hx, by simp [collH], h.sites⟩
  have hi2 : i < H.objs.length := by rw [← len2]; exact hi
  obtain ⟨m1, m2, m3⟩ := hJ.objs i hi2
  rw [at2 i hi2]
  cases hw : W i with
  | true =>
    simp only [if_true]
    unfold made2
    rw [if_neg (by simp [emptyD])]
    refine ⟨⟨m1.1, rfl⟩, fun _ => ⟨rfl, rfl, rfl, rfl, rfl, fun q hq => ?_⟩, fun hd => (by cases hd)⟩
    have hq3 : q < 3 := hq
    match q, hq3 with
    | 0, _ => rfl
    | 1, _ => rfl
    | 2, _ => rfl
  | false =>
    simp only [Bool.false_eq_true, if_false]
    unfold made2
    have hno : ∀ x : Bool, H.objs[i].live = false → H.objs[i].live = true → x = x ∧ False := fun _ h1 h2 => by rw [h1] at h2; cases h2
    rcases Bool.eq_false_or_eq_true H.objs[i].live with hl | hl
    · rw [if_pos (by exact hl)]
      obtain ⟨l1, l2, l3, l4, l5⟩ := m3 hl
      have hk := hW.kept i hi2 hl hw
      have hsum : sumP (kidC H i) (fun x => !W x) 8 ≤ 24 := by
        have := sumP_le (kidC H i) (fun x => !W x) 3 (kidC_le hJ i) 8
        omega
      have hmade : madeZ (coll1 H) (i : Int) { H.objs[i] with purple := false } = H.objs[i].holds + H.objs[i].roots + (sumP (kidC H i) (fun x => !W x) 8 : Int) := by
        have hl1 : ((coll1 H).objs[i]'(by rw [len1]; exact hi2)).live = true ∧ ((coll1 H).objs[i]'(by rw [len1]; exact hi2)).gen = H.objs[i].gen := by
          rw [at1 i hi2, hw]; exact ⟨hl, rfl⟩
        have e : inEdges (coll1 H) (i : Int) = (sumP (kidC H i) (fun x => !W x) 8 : Int) := by
          rw [inEdges_live (by rw [len1]; exact hi2) hl1.1, hl1.2, sum1 hi2 hl]
        unfold madeZ
        rw [e]
        simp only
        rw [IntKind.wrap_i64, IntKind.wrap_i64]
        have := l1.2.2.1
        have := l1.2.2.2
        omega
      refine ⟨m1, fun hd => (hno true hd hl).2.elim, fun _ => ⟨l1, fun q hq => ?_, ?_, ?_, ?_⟩⟩
      · rcases l2 q hq with e | e
        · exact .inl e
        · right
          obtain ⟨k, hk2, ek, k8, hlk, -, ex, -⟩ := slot_inv e
          have hkid : (k : Int) ∈ kidsOf H (i : Int) := by
            have hc : 0 < kidC H k i := by
              rw [← inO_kid hJ hk2 hlk hi2]
              unfold inO
              rw [if_pos hl]
              exact List.count_pos_iff.2 (by rw [← (slot_id hJ hk2 hlk _).1 ek]; exact List.getElem_mem _)
            exact List.count_pos_iff.1 hc
          have hwk := hW.shut i k (by omega) hw hkid
          have hk3 : k < (collH H).objs.length := by rw [len2]; exact hk2
          obtain ⟨a1, a2⟩ := live2 k hk2 hlk hwk hk3
          obtain ⟨n1, -, n3⟩ := hJ.objs k hk2
          have := slot_of (H := collH H) (by rw [len2]; exact h8) hk3 a1 (by rw [a2]; exact ⟨(n3 hlk).1.1, n1.1.2⟩)
          rw [a2, ← (slot_id hJ hk2 hlk _).1 ek] at this
          show 0 ≤ slotZ (collH H) H.objs[i].field[q]
          rw [this]; omega
      · show madeZ (coll1 H) (i : Int) { H.objs[i] with purple := false } = H.objs[i].holds + H.objs[i].roots + (inE (idZ (i : Int) H.objs[i].gen) (collH H).objs : Int) + _
        rw [hmade, sum2 hi2 hl]; simp
      · show 1 ≤ madeZ (coll1 H) (i : Int) { H.objs[i] with purple := false }
        rw [hmade]; exact hk
      · exact ⟨fun e => (by cases e), fun e => by simp [collH] at e⟩
    · rw [if_neg (fun e => (hno true hl e).2)]
      obtain ⟨d1, d2, d3, d4, d5, d6⟩ := m2 hl
      exact ⟨m1, fun _ => ⟨d1, d2, d3, d4, rfl, d6⟩, fun hd => (hno true hl hd).2.elim⟩

/-- Whatever is done, a right heap stays right. -/
theorem work_ok {H : HeapD} (h : OkH H) {o : OpD} (ho : SaneOp o) : OkH (workR H o).1 := by
  by_cases hk : o.kind = 10
  · have e : (workR H o).1 = collH H := by unfold workR; simp [hk]
    rw [e]; exact coll_right h
  · exact work_right h ho hk
theorem app_ok {H : HeapD} (h : OkH H) {o : OpD} (ho : SaneOp o) (q : Bool) : OkH (appR q H o).1 := by
  unfold appR
  split
  · exact work_ok h ho
  · exact h
theorem play_ok : ∀ {l : List OpD} {H G : HeapD} {av : List AnsD}, OkH H → (∀ o ∈ l, SaneOp o) → PlayD H l G av → OkH G := by
  intro l
  induction l with
  | nil => intro H G av h _ hp; obtain ⟨rfl, -⟩ := hp; exact h
  | cons o r ih =>
    intro H G av h hs hp
    obtain ⟨q, -, bs, -, h2⟩ := hp
    exact ih (app_ok h (hs o (List.mem_cons_self ..)) q) (fun x hx => hs x (List.mem_cons_of_mem _ hx)) h2

end Go.Proofs.Ytjhdnachbahbmaa

namespace Go.Proofs.Ytjhdnachbahbmaa
open Go.RowKit
set_option linter.unusedVariables false
set_option maxRecDepth 100000

/-- A new heap. -/
def newD : HeapD := ⟨List.replicate 8 (emptyD 0), List.replicate 8 ⟨false, 0⟩, [], []⟩

theorem made_at (z : Array Value) (n k m : Nat) (h : k < n) (hm : k % z.size = m) : (madeCells z n)[k]? = some (z[m]!) := by
  subst hm
  unfold madeCells
  rw [Array.getElem?_map, Array.getElem?_range, if_pos h]
  rfl
theorem cells_obj0 : (Value.agg #[.bool false, .int .i64 0, .int .i64 0, .int .i64 0, .int .i64 0, .int .i64 0, .slice none 0 0, .bool false]).cells = #[.bool false, .int .i64 0, .int .i64 0, .int .i64 0, .int .i64 0, .int .i64 0, .slice none 0 0, .bool false] := by simp [Value.cells]
theorem cells_weak0 : (Value.agg #[.bool false, .int .i64 0]).cells = #[.bool false, .int .i64 0] := by simp [Value.cells]

/-- The cells of eight objects, of eight handles, as they are made. -/
def zeroO : Array Value := madeCells #[.bool false, .int .i64 0, .int .i64 0, .int .i64 0, .int .i64 0, .int .i64 0, .slice none 0 0, .bool false] 64
def zeroW : Array Value := madeCells #[.bool false, .int .i64 0] 16
theorem make_objs8 (u : World) : (Instr.makeSlice 29 (.int .i64 8) (.int .i64 8)).run Try.prog u = .ok (.slice (some ⟨u.heap.size, 0, none⟩) 8 8) (u.alloc (.cells zeroO 50)) := by
  obtain ⟨i0, hi, hz0, hz1, hz2⟩ := info_parts infoO
  have h := run_make (P := Try.prog) u 29 50 i0 _ Try.underlying29 hi hz0 .i64 .i64 8 8 (by omega) (by omega) (by rw [hz2]; omega) (by omega)
  rw [hz1, cells_obj0, show (Int.toNat 8) * 8 = 64 from rfl] at h
  exact h
theorem objs8_at {X : World} {G : Nat} (h : ∀ k, X.cell? ⟨G, k, none⟩ = zeroO[k]?) (j : Nat) (hj : j < 8) : ObjAt X G (j * 8) (emptyD 0) (.slice none 0 0) := by
  constructor <;> rw [h]
  · exact made_at _ _ _ 0 (by omega) (by show _ % 8 = _; omega)
  · exact made_at _ _ _ 1 (by omega) (by show _ % 8 = _; omega)
  · exact made_at _ _ _ 2 (by omega) (by show _ % 8 = _; omega)
  · exact made_at _ _ _ 3 (by omega) (by show _ % 8 = _; omega)
  · exact made_at _ _ _ 4 (by omega) (by show _ % 8 = _; omega)
  · exact made_at _ _ _ 5 (by omega) (by show _ % 8 = _; omega)
  · exact made_at _ _ _ 6 (by omega) (by show _ % 8 = _; omega)
  · exact made_at _ _ _ 7 (by omega) (by show _ % 8 = _; omega)

theorem make_weaks8 (u : World) : (Instr.makeSlice 30 (.int .i64 8) (.int .i64 8)).run Try.prog u = .ok (.slice (some ⟨u.heap.size, 0, none⟩) 8 8) (u.alloc (.cells zeroW 63)) := by
  obtain ⟨i0, hi, hz0, hz1, hz2⟩ := info_parts infoW
  have h := run_make (P := Try.prog) u 30 63 i0 _ Try.underlying30 hi hz0 .i64 .i64 8 8 (by omega) (by omega) (by rw [hz2]; omega) (by omega)
  rw [hz1, cells_weak0, show (Int.toNat 8) * 2 = 16 from rfl] at h
  exact h
theorem weaks8_at {X : World} {G : Nat} (h : ∀ k, X.cell? ⟨G, k, none⟩ = zeroW[k]?) (hf : ∀ k, X.frozen? ⟨G, k, none⟩ = false) : LaidW X G (List.replicate 8 ⟨false, 0⟩) 8 := by
  intro j hj hj8
  refine ⟨?_, fun k _ => hf _⟩
  rw [List.getElem_replicate]
  constructor <;> rw [h]
  · exact made_at _ _ _ 0 (by omega) (by show _ % 2 = _; omega)
  · exact made_at _ _ _ 1 (by omega) (by show _ % 2 = _; omega)

theorem setObj_block (w : World) (g p : Nat) (o : ObjD) (f : Value) (i : Nat) (h : i ≠ g) : (setObj w g p o f).heap[i]? = w.heap[i]? := by
  unfold setObj
  iterate 8 rw [heap_setCell_other _ _ _ _ (by exact h)]
/-- The first objects of a row in block go, each with a row of its own for its fields, at or behind block B. -/
structure NI (X : World) (go B : Nat) (fs : List OSh) : Prop where
  at_ : ∀ i (h : i < fs.length), ObjAt X go (i * 8) (emptyD 0) (.slice fs[i].f 3 fs[i].c) ∧ fs[i].n = 3 ∧ ownI X B (.slice fs[i].f 3 fs[i].c) [-1, -1, -1]
  pw : fs.Pairwise (fun t u => Ap t.f t.n u.f u.n)
theorem ni_later {X Y : World} {go B : Nat} {fs : List OSh} (h : NI X go B fs) (hb : Below X.heap.size X Y) (hg : go < X.heap.size) : NI Y go B fs :=
  ⟨fun i hi => ⟨(h.at_ i hi).1.keep (fun k => hb.cell (p := ⟨go, k, none⟩) hg), (h.at_ i hi).2.1, ownI_later (h.at_ i hi).2.2 hb⟩, h.pw⟩
theorem ni_set {X : World} {go B : Nat} {fs : List OSh} {a : Option Addr} {c : Nat} (h : NI X go B fs) (hg : go < B) (hc : ∀ k, k < 8 → ∃ u, X.cell? ⟨go, fs.length * 8 + k, none⟩ = some u) (ho : ownI X B (.slice a 3 c) [-1, -1, -1]) (hn : ∀ t ∈ fs, ∀ x y, t.f = some x → a = some y → x.block ≠ y.block) :
    NI (setObj X go (fs.length * 8) (emptyD 0) (.slice a 3 c)) go B (fs ++ [⟨a, 3, c⟩]) := by
  refine ⟨fun i hi => ?_, ?_⟩
  · by_cases he : i < fs.length
    · rw [List.getElem_append_left he]
      obtain ⟨h1, h2, h3⟩ := h.at_ i he
      refine ⟨⟨?_, ?_, ?_, ?_, ?_, ?_, ?_, ?_⟩, h2, setObj_own go _ _ _ h3 hg⟩
      all_goals rw [setObj_other _ _ _ _ _ _ (by omega)]
      · exact h1.c0
      · exact h1.c1
      · exact h1.c2
      · exact h1.c3
      · exact h1.c4
      · exact h1.c5
      · exact h1.c6
      · exact h1.c7
    · obtain rfl : i = fs.length := by simp at hi; omega
      have e : (fs ++ [(⟨a, 3, c⟩ : OSh)])[fs.length] = ⟨a, 3, c⟩ := by simp
      rw [e]
      exact ⟨setObj_at X go _ _ _ hc, rfl, setObj_own go _ _ _ ho hg⟩
  · refine List.pairwise_append.2 ⟨h.pw, by simp, ?_⟩
    intro t ht u hu
    simp only [List.mem_singleton] at hu
    subst hu
    exact fun _ _ x y hx hy => hn t ht x y hx hy
theorem ni_mem {X : World} {go gw B C : Nat} {fs : List OSh} (h : NI X go B fs) (hl : fs.length = 8) (hw : LaidW X gw (List.replicate 8 ⟨false, 0⟩) 8) (hf : ∀ k, k < 64 → X.frozen? ⟨go, k, none⟩ = false) (h1 : go < B) (h2 : gw < B) (h3 : go ≠ gw) (h4 : C ≤ go) (h5 : C ≤ gw) (h6 : go < X.heap.size) (h7 : gw < X.heap.size) :
    MemH X C ⟨some ⟨go, 0, none⟩, 8, fs, some ⟨gw, 0, none⟩, 8, 8, none, 0, 0, none, 0, 0⟩ newD := by
  have fb : ∀ t ∈ fs, ∀ x, t.f = some x → B ≤ x.block := by
    intro t ht x hx
    obtain ⟨i, hi, rfl⟩ := List.mem_iff_getElem.1 ht
    exact (ownI_lt (h.at_ i hi).2.2 x.block (by rw [hx]; rfl)).1
  refine memH_mk (by simp [newD, hl]) (by simp [newD]) rfl rfl ?_ ?_ (fun j hj => by simp [newD] at hj) (fun j hj => by simp [newD] at hj) ⟨?_, ?_, ?_, fun j hj => by simp at hj, fun j hj => by simp at hj, by simp only; omega, ?_, by simp only; omega, by simp only; omega, by simp only; omega⟩ ?_ ?_
  · intro j hj
    have hj8 : j < 8 := by simpa [newD] using hj
    obtain ⟨e1, e2, e3⟩ := h.at_ j (by omega)
    obtain ⟨a, cap, e4, e5⟩ := rdI_own' e3
    simp only [Value.slice.injEq] at e4
    obtain ⟨e4, -, -⟩ := e4
    have e : newD.objs[j]'hj = emptyD 0 := List.getElem_replicate ..
    rw [e]
    refine ⟨go, 0, fs[j].f, fs[j].c, rfl, h6, by rw [Nat.zero_add]; exact e1, by rw [e4]; exact e5⟩
  · intro j hj
    have hj8 : j < 8 := by simpa [newD] using hj
    exact ⟨gw, 0, rfl, h7, by rw [Nat.zero_add]; exact (hw j (by simpa using hj8) hj8).1⟩
  · intro j hj
    simp only at hj
    obtain ⟨e1, e2, e3⟩ := h.at_ j hj
    obtain ⟨a, cap, e4, e5, e6⟩ := ownI_can e3
    simp only [Value.slice.injEq] at e4
    obtain ⟨e4, -, -⟩ := e4
    refine ⟨go, 0, rfl, h6, fun k hk => ⟨by rw [Nat.zero_add]; exact objAt_some e1 k hk, by rw [Nat.zero_add]; exact hf _ (by omega)⟩, by rw [Nat.zero_add, e2]; exact e1.c6, by simp only [e4, e2]; exact e5, ?_⟩
    intro x hx _ e
    have := fb _ (List.getElem_mem hj) x hx
    omega
  · intro x t hx ht _ y hy e
    injection hx with hx; subst hx
    have := fb t ht y hy
    simp only at e; omega
  · intro j hj
    simp only at hj
    obtain ⟨e1, e2⟩ := hw j (by simpa using hj) hj
    exact ⟨gw, 0, rfl, h7, ⟨_, by rw [Nat.zero_add]; exact e1.c0⟩, by rw [Nat.zero_add]; exact e2 0 (by omega), ⟨_, by rw [Nat.zero_add]; exact e1.c1⟩, by rw [Nat.zero_add]; exact e2 1 (by omega)⟩
  · intro t ht
    obtain ⟨i, hi, rfl⟩ := List.mem_iff_getElem.1 ht
    simp only at hi ⊢
    rw [(h.at_ i hi).2.1]; omega
  · have ne : ∀ x y : Addr, (some ⟨go, 0, none⟩ : Option Addr) = some x → (some ⟨gw, 0, none⟩ : Option Addr) = some y → x.block ≠ y.block := by
      intro x y hx hy; injection hx with hx; injection hy with hy; subst hx hy; exact h3
    refine ⟨fun _ _ => ne, fun _ h => by simp at h, fun _ h => by simp at h, fun _ h => by simp at h, fun _ h => by simp at h, fun h => by simp at h, ?_, ?_, fun t _ h => by simp at h, fun t _ h => by simp at h, h.pw⟩
    · intro t ht _ _ x y hx hy e
      injection hx with hx; subst hx
      have := fb t ht y hy
      simp only at e; omega
    · intro t ht _ _ x y hx hy e
      injection hx with hx; subst hx
      have := fb t ht y hy
      simp only at e; omega
  · refine ⟨fun _ x hx => by injection hx with hx; subst hx; exact h4, fun _ x hx => by injection hx with hx; subst hx; exact h5, fun h => by simp at h, fun h => by simp at h, ?_⟩
    intro t ht _ x hx
    have := fb t ht x hx
    omega

/-- As the specification fills it: the first j objects have their rows of fields. -/
structure SI (X : World) (go B j : Nat) : Prop where
  done : ∀ i, i < j → ∃ f, ObjAt X go (i * 8) (emptyD 0) f ∧ ownI X B f [-1, -1, -1]
  rest : ∀ i, j ≤ i → i < 8 → ObjAt X go (i * 8) (emptyD 0) (.slice none 0 0)
theorem si_later {X Y : World} {go B j : Nat} (h : SI X go B j) (hb : Below X.heap.size X Y) (hg : go < X.heap.size) : SI Y go B j :=
  ⟨fun i hi => by obtain ⟨f, h1, h2⟩ := h.done i hi; exact ⟨f, h1.keep (fun k => hb.cell (p := ⟨go, k, none⟩) hg), ownI_later h2 hb⟩,
   fun i hi h8 => (h.rest i hi h8).keep (fun k => hb.cell (p := ⟨go, k, none⟩) hg)⟩
theorem si_far {X : World} {go B j : Nat} (p : Addr) (u : Value) (h : SI X go B j) (hp : p.block < go) (hB : p.block < B) : SI (X.setCell p u) go B j :=
  ⟨fun i hi => by obtain ⟨f, h1, h2⟩ := h.done i hi; exact ⟨f, h1.keep (fun k => keep_far p u (by omega) k), ownI_far p u h2 hB⟩,
   fun i hi h8 => (h.rest i hi h8).keep (fun k => keep_far p u (by omega) k)⟩
theorem si_set {X : World} {go B j : Nat} {f : Value} (h : SI X go B j) (hj : j < 8) (ho : ownI X B f [-1, -1, -1]) (hg : go < B) : SI (X.setCell ⟨go, j * 8 + 6, none⟩ f) go B (j + 1) := by
  have one : ∀ i u, i ≠ j → ObjAt X go (i * 8) (emptyD 0) u → ObjAt (X.setCell ⟨go, j * 8 + 6, none⟩ f) go (i * 8) (emptyD 0) u := by
    intro i u hi h1
    refine ⟨?_, ?_, ?_, ?_, ?_, ?_, ?_, ?_⟩ <;> rw [cell_far _ _ _ _ _ (by omega)]
    · exact h1.c0
    · exact h1.c1
    · exact h1.c2
    · exact h1.c3
    · exact h1.c4
    · exact h1.c5
    · exact h1.c6
    · exact h1.c7
  refine ⟨fun i hi => ?_, fun i hi h8 => one i _ (by omega) (h.rest i (by omega) h8)⟩
  by_cases e : i = j
  · subst e
    have h1 := h.rest i (Nat.le_refl _) hj
    refine ⟨f, ⟨?_, ?_, ?_, ?_, ?_, ?_, ?_, ?_⟩, ownI_far _ _ ho hg⟩
    · rw [cell_far _ _ _ _ _ (by omega)]; exact h1.c0
    · rw [cell_far _ _ _ _ _ (by omega)]; exact h1.c1
    · rw [cell_far _ _ _ _ _ (by omega)]; exact h1.c2
    · rw [cell_far _ _ _ _ _ (by omega)]; exact h1.c3
    · rw [cell_far _ _ _ _ _ (by omega)]; exact h1.c4
    · rw [cell_far _ _ _ _ _ (by omega)]; exact h1.c5
    · exact World.cell?_setCell_same X _ _ h1.c6
    · rw [cell_far _ _ _ _ _ (by omega)]; exact h1.c7
  · obtain ⟨u, h1, h2⟩ := h.done i (by omega)
    exact ⟨u, one i u e h1, ownI_far _ _ h2 hg⟩
theorem si_rd {X : World} {go gw B : Nat} (h : SI X go B 8) (hw : LaidW X gw (List.replicate 8 ⟨false, 0⟩) 8) (h6 : go < X.heap.size) (h7 : gw < X.heap.size) : RdH X (.agg #[.slice (some ⟨go, 0, none⟩) 8 8, .slice (some ⟨gw, 0, none⟩) 8 8, .slice none 0 0, .slice none 0 0]) newD := by
  refine ⟨_, _, _, _, _, _, _, _, by simp [newD]; exact ⟨⟨rfl, rfl⟩, ⟨rfl, rfl⟩, ⟨rfl, rfl⟩, rfl, rfl⟩, ?_, ?_, fun j hj => by simp [newD] at hj, fun j hj => by simp [newD] at hj⟩
  · intro j hj
    have hj8 : j < 8 := by simpa [newD] using hj
    obtain ⟨f, e1, e2⟩ := h.done j hj8
    obtain ⟨a, cap, rfl, e5⟩ := rdI_own' e2
    have e : newD.objs[j]'hj = emptyD 0 := List.getElem_replicate ..
    rw [e]
    exact ⟨go, 0, a, cap, rfl, h6, by rw [Nat.zero_add]; exact e1, e5⟩
  · intro j hj
    have hj8 : j < 8 := by simpa [newD] using hj
    exact ⟨gw, 0, rfl, h7, by rw [Nat.zero_add]; exact (hw j (by simpa using hj8) hj8).1⟩

/-- Four new blocks. -/
theorem alloc4 (w : World) (x0 x1 x2 x3 : Array Value) (t0 t1 t2 t3 : TypeId) (X : World) (hX : X = ((((w.alloc (.cells x0 t0)).alloc (.cells x1 t1)).alloc (.cells x2 t2)).alloc (.cells x3 t3)).drew) :
    ((∀ k, X.cell? ⟨w.heap.size, k, none⟩ = x0[k]?) ∧ ∀ k, X.frozen? ⟨w.heap.size, k, none⟩ = false) ∧ ((∀ k, X.cell? ⟨w.heap.size + 1, k, none⟩ = x1[k]?) ∧ ∀ k, X.frozen? ⟨w.heap.size + 1, k, none⟩ = false) ∧
    ((∀ k, X.cell? ⟨w.heap.size + 1 + 1, k, none⟩ = x2[k]?) ∧ ∀ k, X.frozen? ⟨w.heap.size + 1 + 1, k, none⟩ = false) ∧ ((∀ k, X.cell? ⟨w.heap.size + 1 + 1 + 1, k, none⟩ = x3[k]?) ∧ ∀ k, X.frozen? ⟨w.heap.size + 1 + 1 + 1, k, none⟩ = false) ∧
    X.heap.size = w.heap.size + 1 + 1 + 1 + 1 ∧ Below w.heap.size w X := by
  obtain ⟨A, hA⟩ : ∃ A, A = w.alloc (.cells x0 t0) := ⟨_, rfl⟩
  obtain ⟨B, hB⟩ : ∃ B, B = A.alloc (.cells x1 t1) := ⟨_, rfl⟩
  obtain ⟨C, hC⟩ : ∃ C, C = B.alloc (.cells x2 t2) := ⟨_, rfl⟩
  have sA : A.heap.size = w.heap.size + 1 := by rw [hA]; simp
  have sB : B.heap.size = w.heap.size + 1 + 1 := by rw [hB]; simp [sA]
  have sC : C.heap.size = w.heap.size + 1 + 1 + 1 := by rw [hC]; simp [sB]
  rw [← hA, ← hB, ← hC] at hX
  have bA : Below A.heap.size A X := by rw [hX, hC, hB]; exact (((Below.refl _ _).alloc (Nat.le_refl _) _).alloc (by simp) _).alloc (by simp; omega) _ |>.drew
  have bB : Below B.heap.size B X := by rw [hX, hC]; exact ((Below.refl _ _).alloc (Nat.le_refl _) _).alloc (by simp) _ |>.drew
  have bC : Below C.heap.size C X := by rw [hX]; exact (Below.refl _ _).alloc (Nat.le_refl _) _ |>.drew
  have bX : Below X.heap.size (C.alloc (.cells x3 t3)) X := by rw [hX]; exact (Below.refl _ _).drew
  have sX : X.heap.size = w.heap.size + 1 + 1 + 1 + 1 := by rw [hX]; simp [sC]
  refine ⟨blk_kept w t0 x0 X (by rw [sA, hA] at bA; exact bA), ?_, ?_, ?_, sX, ?_⟩
  · have h := blk_kept A t1 x1 X (by rw [show A.heap.size + 1 = B.heap.size from by omega, ← hB]; exact bB)
    rw [sA] at h; exact h
  · have h := blk_kept B t2 x2 X (by rw [show B.heap.size + 1 = C.heap.size from by omega, ← hC]; exact bC)
    rw [sB] at h; exact h
  · have h := blk_kept C t3 x3 X (by rw [show C.heap.size + 1 = X.heap.size from by omega]; exact bX)
    rw [sC] at h; exact h
  · have h : Below w.heap.size w A := by rw [hA]; exact (Below.refl _ _).alloc (Nat.le_refl _) _
    exact h.trans (bA.mono (by omega))

/-- What HeapNew begins with: the result's block, a row of objects, one of handles, the variable. -/
structure NewIn (w X : World) (go gw gb : Nat) : Prop where
  r : (∀ k, X.cell? ⟨w.heap.size, k, none⟩ = (#[Value.slice none 0 0, .slice none 0 0, .slice none 0 0, .slice none 0 0] : Array Value)[k]?) ∧ ∀ k, X.frozen? ⟨w.heap.size, k, none⟩ = false
  o : (∀ k, X.cell? ⟨go, k, none⟩ = zeroO[k]?) ∧ ∀ k, X.frozen? ⟨go, k, none⟩ = false
  wk : (∀ k, X.cell? ⟨gw, k, none⟩ = zeroW[k]?) ∧ ∀ k, X.frozen? ⟨gw, k, none⟩ = false
  b : (∀ k, X.cell? ⟨gb, k, none⟩ = (#[Value.slice (some ⟨go, 0, none⟩) 8 8, .slice (some ⟨gw, 0, none⟩) 8 8, .slice none 0 0, .slice none 0 0] : Array Value)[k]?) ∧ ∀ k, X.frozen? ⟨gb, k, none⟩ = false
  sz : w.heap.size < go ∧ w.heap.size < gw ∧ w.heap.size < gb ∧ go ≠ gw ∧ go ≠ gb ∧ gw ≠ gb ∧ go < X.heap.size ∧ gw < X.heap.size ∧ gb < X.heap.size
  bel : Below w.heap.size w X

set_option maxHeartbeats 4000000 in
theorem iHeapNew_calls (w : World) :
    Calls Try.prog 9 #[] w fun e w' => ∃ s : HSh, e = .returned s.v ∧ MemH w' (w.heap.size + 1) s newD ∧ Below w.heap.size w w' := by
  have mo := make_objs8
  have mw := make_weaks8
  go_enter Try.func9, Try.ntmps9
  go_wp2
  go_region
  all_goals clear mo mw
  all_goals
    first
    | (obtain ⟨X, hX⟩ : ∃ X, X = ((((w.alloc (.cells #[.slice none 0 0, .slice none 0 0, .slice none 0 0, .slice none 0 0] 33)).alloc (.cells zeroO 50)).alloc (.cells zeroW 63)).alloc (.cells #[.slice (some ⟨w.heap.size + 1, 0, none⟩) 8 8, .slice (some ⟨w.heap.size + 1 + 1, 0, none⟩) 8 8, .slice none 0 0, .slice none 0 0] 33)).drew := ⟨_, rfl⟩
       rw [← hX]
       obtain ⟨q0, q1, q2, q3, qs, qb⟩ := alloc4 w _ _ _ _ _ _ _ _ X hX
       have hN : NewIn w X (w.heap.size + 1) (w.heap.size + 1 + 1) (w.heap.size + 1 + 1 + 1) := ⟨q0, q1, q2, q3, ⟨by omega, by omega, by omega, by omega, by omega, by omega, by omega, by omega, by omega⟩, qb⟩
       clear q0 q1 q2 q3 qs qb hX
       generalize w.heap.size + 1 + 1 + 1 = gb at hN ⊢
       generalize w.heap.size + 1 + 1 = gw at hN ⊢
       generalize w.heap.size + 1 = go at hN ⊢)
    | (obtain ⟨X, hX⟩ : ∃ X, X = ((((w.alloc (.cells #[.slice none 0 0, .slice none 0 0, .slice none 0 0, .slice none 0 0] 33)).alloc (.cells zeroO 50)).alloc (.cells #[.slice (some ⟨w.heap.size + 1, 0, none⟩) 8 8, .slice (some ⟨w.heap.size + 1 + 1 + 1, 0, none⟩) 8 8, .slice none 0 0, .slice none 0 0] 33)).alloc (.cells zeroW 63)).drew := ⟨_, rfl⟩
       rw [← hX]
       obtain ⟨q0, q1, q2, q3, qs, qb⟩ := alloc4 w _ _ _ _ _ _ _ _ X hX
       have hN : NewIn w X (w.heap.size + 1) (w.heap.size + 1 + 1 + 1) (w.heap.size + 1 + 1) := ⟨q0, q1, q3, q2, ⟨by omega, by omega, by omega, by omega, by omega, by omega, by omega, by omega, by omega⟩, qb⟩
       clear q0 q1 q2 q3 qs qb hX
       generalize w.heap.size + 1 + 1 + 1 = gw at hN ⊢
       generalize w.heap.size + 1 + 1 = gb at hN ⊢
       generalize w.heap.size + 1 = go at hN ⊢)
    | (obtain ⟨X, hX⟩ : ∃ X, X = ((((w.alloc (.cells #[.slice none 0 0, .slice none 0 0, .slice none 0 0, .slice none 0 0] 33)).alloc (.cells zeroW 63)).alloc (.cells zeroO 50)).alloc (.cells #[.slice (some ⟨w.heap.size + 1 + 1, 0, none⟩) 8 8, .slice (some ⟨w.heap.size + 1, 0, none⟩) 8 8, .slice none 0 0, .slice none 0 0] 33)).drew := ⟨_, rfl⟩
       rw [← hX]
       obtain ⟨q0, q1, q2, q3, qs, qb⟩ := alloc4 w _ _ _ _ _ _ _ _ X hX
       have hN : NewIn w X (w.heap.size + 1 + 1) (w.heap.size + 1) (w.heap.size + 1 + 1 + 1) := ⟨q0, q2, q1, q3, ⟨by omega, by omega, by omega, by omega, by omega, by omega, by omega, by omega, by omega⟩, qb⟩
       clear q0 q1 q2 q3 qs qb hX
       generalize w.heap.size + 1 + 1 + 1 = gb at hN ⊢
       generalize w.heap.size + 1 + 1 = go at hN ⊢
       generalize w.heap.size + 1 = gw at hN ⊢)
    | (obtain ⟨X, hX⟩ : ∃ X, X = ((((w.alloc (.cells #[.slice none 0 0, .slice none 0 0, .slice none 0 0, .slice none 0 0] 33)).alloc (.cells #[.slice (some ⟨w.heap.size + 1 + 1, 0, none⟩) 8 8, .slice (some ⟨w.heap.size + 1 + 1 + 1, 0, none⟩) 8 8, .slice none 0 0, .slice none 0 0] 33)).alloc (.cells zeroO 50)).alloc (.cells zeroW 63)).drew := ⟨_, rfl⟩
       rw [← hX]
       obtain ⟨q0, q1, q2, q3, qs, qb⟩ := alloc4 w _ _ _ _ _ _ _ _ X hX
       have hN : NewIn w X (w.heap.size + 1 + 1) (w.heap.size + 1 + 1 + 1) (w.heap.size + 1) := ⟨q0, q2, q3, q1, ⟨by omega, by omega, by omega, by omega, by omega, by omega, by omega, by omega, by omega⟩, qb⟩
       clear q0 q1 q2 q3 qs qb hX
       generalize w.heap.size + 1 + 1 + 1 = gw at hN ⊢
       generalize w.heap.size + 1 + 1 = go at hN ⊢
       generalize w.heap.size + 1 = gb at hN ⊢)
    | (obtain ⟨X, hX⟩ : ∃ X, X = ((((w.alloc (.cells #[.slice none 0 0, .slice none 0 0, .slice none 0 0, .slice none 0 0] 33)).alloc (.cells zeroW 63)).alloc (.cells #[.slice (some ⟨w.heap.size + 1 + 1 + 1, 0, none⟩) 8 8, .slice (some ⟨w.heap.size + 1, 0, none⟩) 8 8, .slice none 0 0, .slice none 0 0] 33)).alloc (.cells zeroO 50)).drew := ⟨_, rfl⟩
       rw [← hX]
       obtain ⟨q0, q1, q2, q3, qs, qb⟩ := alloc4 w _ _ _ _ _ _ _ _ X hX
       have hN : NewIn w X (w.heap.size + 1 + 1 + 1) (w.heap.size + 1) (w.heap.size + 1 + 1) := ⟨q0, q3, q1, q2, ⟨by omega, by omega, by omega, by omega, by omega, by omega, by omega, by omega, by omega⟩, qb⟩
       clear q0 q1 q2 q3 qs qb hX
       generalize w.heap.size + 1 + 1 + 1 = go at hN ⊢
       generalize w.heap.size + 1 + 1 = gb at hN ⊢
       generalize w.heap.size + 1 = gw at hN ⊢)
    | (obtain ⟨X, hX⟩ : ∃ X, X = ((((w.alloc (.cells #[.slice none 0 0, .slice none 0 0, .slice none 0 0, .slice none 0 0] 33)).alloc (.cells #[.slice (some ⟨w.heap.size + 1 + 1 + 1, 0, none⟩) 8 8, .slice (some ⟨w.heap.size + 1 + 1, 0, none⟩) 8 8, .slice none 0 0, .slice none 0 0] 33)).alloc (.cells zeroW 63)).alloc (.cells zeroO 50)).drew := ⟨_, rfl⟩
       rw [← hX]
       obtain ⟨q0, q1, q2, q3, qs, qb⟩ := alloc4 w _ _ _ _ _ _ _ _ X hX
       have hN : NewIn w X (w.heap.size + 1 + 1 + 1) (w.heap.size + 1 + 1) (w.heap.size + 1) := ⟨q0, q3, q2, q1, ⟨by omega, by omega, by omega, by omega, by omega, by omega, by omega, by omega, by omega⟩, qb⟩
       clear q0 q1 q2 q3 qs qb hX
       generalize w.heap.size + 1 + 1 + 1 = go at hN ⊢
       generalize w.heap.size + 1 + 1 = gw at hN ⊢
       generalize w.heap.size + 1 = gb at hN ⊢)
  all_goals
    obtain ⟨x, hx, hxs⟩ := cells_idxs go 0 8
    have HX : Hid (∀ s : Nat, s < 8 → ∀ X : World, (Instr.index 47 (.agg x) (.int .i64 (s : Int))).run Try.prog X = .ok (.pointer (cellA go 0 8 s)) X) := hxs
    have CC : Hid (∀ Y : World, _) := fun Y => cellsOf_calls Y (some ⟨go, 0, none⟩) 8 8 (.slice (some ⟨gw, 0, none⟩) 8 8) (.slice none 0 0) (.slice none 0 0) (by omega) go 0 (fun _ => rfl) ⟨_, _, _, _, _, _, _, _, _, rfl, rfl, rfl⟩
    rw [hx] at CC
    have HN : Hid (NewIn w X go gw gb) := hN
    obtain ⟨z1, z2, z3, z4, z5, z6, z7, z8, z9⟩ := hN.sz
    have b0 := hN.b.1 0
    have b1 := hN.b.1 1
    have b2 := hN.b.1 2
    have b3 := hN.b.1 3
    simp only [List.getElem?_toArray, List.getElem?_cons_zero, List.getElem?_cons_succ] at b0 b1 b2 b3
    clear hN hx hxs
    go_wp2_with fail
    refine (CC.out _).mono ?_
    rintro e w1 ⟨rfl, d1⟩
    have HD : Hid (Below X.heap.size X w1) := d1
    have hs1 := d1.size
    have H0 : Hid (NI w1 go w1.heap.size []) := ⟨fun i hi => by simp at hi, by simp⟩
    have HC0 : Hid (∀ k, k < 64 → (∃ x, w1.cell? ⟨go, k, none⟩ = some x) ∧ w1.frozen? ⟨go, k, none⟩ = false) := fun k hk =>
      ⟨by rw [d1.cell (p := ⟨go, k, none⟩) z7, HN.out.o.1]; exact ⟨_, made_at _ _ _ _ hk rfl⟩, by rw [d1.frozen (p := ⟨go, k, none⟩) z7]; exact HN.out.o.2 k⟩
    have HB : Hid (Below w.heap.size w w1) := HN.out.bel.trans (d1.mono (by have := HN.out.bel.size; omega))
    clear CC d1 b0 b1 b2 b3
    go_wp2
    go_loopw [9] (fun i wr => ∃ (j : Nat) (fs : List OSh), j ≤ 8 ∧ i = .int .i64 j ∧ fs.length = j ∧ Hid (NI wr go w1.heap.size fs) ∧ Hid (∀ k, k < 64 → (∃ x, wr.cell? ⟨go, k, none⟩ = some x) ∧ wr.frozen? ⟨go, k, none⟩ = false) ∧ w1.heap.size ≤ wr.heap.size ∧ Hid (∀ g, g < w1.heap.size → g ≠ go → wr.heap[g]? = w1.heap[g]?) ∧ Hid (Below w.heap.size w wr)) (fun i _ => 8 - (intOf i).toNat)
    case atStart => exact ⟨0, [], by omega, rfl, rfl, H0, HC0, Nat.le_refl _, fun _ _ _ => rfl, HB⟩
    case round =>
      obtain ⟨j, fs, hj, rfl, hfs, HI, HC, hsz, HO, HBl⟩ := hrel
      by_cases hlt : j < 8
      · have hix := HX.out j hlt
        have hA : cellA go 0 8 j = some ⟨go, j * 8, none⟩ := by unfold cellA; rw [if_pos hlt, Nat.zero_add]
        rw [hA] at hix
        clear hA
        go_wp2_with fail
        refine (emptyObj_calls 0 _).mono ?_
        rintro e w2 ⟨f, rfl, O2, b2⟩
        obtain ⟨a, c, rfl, -⟩ := ownI_read O2
        have hs2 := b2.size
        have HI2 : Hid (NI w2 go w1.heap.size fs) := ni_later HI.out b2 (by omega)
        have HX2 : Hid (∀ k, k < 64 → (∃ x, w2.cell? ⟨go, k, none⟩ = some x) ∧ w2.frozen? ⟨go, k, none⟩ = false) := fun k hk => by
          obtain ⟨⟨x, hx⟩, hf⟩ := HC.out k hk
          exact ⟨⟨x, (b2.cell (p := ⟨go, k, none⟩) (by show go < _; omega)).trans hx⟩, (b2.frozen (p := ⟨go, k, none⟩) (by show go < _; omega)).trans hf⟩
        obtain ⟨⟨x0, e0⟩, f0⟩ := HX2.out (j * 8) (by omega)
        obtain ⟨⟨x1, e1⟩, f1⟩ := HX2.out (j * 8 + 1) (by omega)
        obtain ⟨⟨x2, e2⟩, f2⟩ := HX2.out (j * 8 + 2) (by omega)
        obtain ⟨⟨x3, e3⟩, f3⟩ := HX2.out (j * 8 + 3) (by omega)
        obtain ⟨⟨x4, e4⟩, f4⟩ := HX2.out (j * 8 + 4) (by omega)
        obtain ⟨⟨x5, e5⟩, f5⟩ := HX2.out (j * 8 + 5) (by omega)
        obtain ⟨⟨x6, e6⟩, f6⟩ := HX2.out (j * 8 + 6) (by omega)
        obtain ⟨⟨x7, e7⟩, f7⟩ := HX2.out (j * 8 + 7) (by omega)
        have S1 : Hid (NI (setObj w2 go (j * 8) (emptyD 0) (.slice a 3 c)) go w1.heap.size (fs ++ [⟨a, 3, c⟩])) := by
          have h := ni_set HI2.out (by omega) (fun k hk => (HX2.out (fs.length * 8 + k) (by omega)).1) (ownI_mono O2 hsz) (fun t ht x y hx hy e => by
            obtain ⟨i, hi, rfl⟩ := List.mem_iff_getElem.1 ht
            have h1 := (ownI_lt (HI.out.at_ i hi).2.2 x.block (by rw [hx]; rfl)).2
            have h2 := (ownI_lt O2 y.block (by rw [hy]; rfl)).1
            omega)
          rw [hfs] at h
          exact h
        have S2 : Hid (∀ k, k < 64 → (∃ x, (setObj w2 go (j * 8) (emptyD 0) (.slice a 3 c)).cell? ⟨go, k, none⟩ = some x) ∧ (setObj w2 go (j * 8) (emptyD 0) (.slice a 3 c)).frozen? ⟨go, k, none⟩ = false) :=
          fun k hk => ⟨some_setObj _ _ _ _ _ _ (HX2.out k hk).1, by rw [setObj_frozen]; exact (HX2.out k hk).2⟩
        have S3 : Hid (w1.heap.size ≤ (setObj w2 go (j * 8) (emptyD 0) (.slice a 3 c)).heap.size) := by show _ ≤ _; rw [setObj_size]; omega
        have S4 : Hid (∀ g, g < w1.heap.size → g ≠ go → (setObj w2 go (j * 8) (emptyD 0) (.slice a 3 c)).heap[g]? = w1.heap[g]?) := fun g h1 h2 => by
          rw [← HO.out g h1 h2, ← b2.block g (by omega)]
          exact setObj_block _ _ _ _ _ g h2
        have S5 : Hid (Below w.heap.size w (setObj w2 go (j * 8) (emptyD 0) (.slice a 3 c))) := setObj_below _ _ _ _ (HBl.out.trans (b2.mono HBl.out.size)) (by omega)
        clear O2 b2 HI2 HX2 HI HC HO HBl
        unfold objV
        go_wp2
        go_roundw
        case rel => exact ⟨j + 1, fs ++ [OSh.mk a 3 c], by omega, by go_num, by simp [hfs], S1, S2, S3.out, S4, S5⟩
        case measure => simp [intOf]; omega
      · obtain rfl : j = 8 := by omega
        have hK : ∀ g, g < X.heap.size → g ≠ go → ∀ k, wr.cell? ⟨g, k, none⟩ = X.cell? ⟨g, k, none⟩ ∧ wr.frozen? ⟨g, k, none⟩ = X.frozen? ⟨g, k, none⟩ := by
          intro g hg hgo k
          have h := HO.out g (by omega) hgo
          exact ⟨(World.cell?_of_block (a := ⟨g, k, none⟩) h).trans (HD.out.cell (p := ⟨g, k, none⟩) hg), (World.frozen?_of_block (a := ⟨g, k, none⟩) h).trans (HD.out.frozen (p := ⟨g, k, none⟩) hg)⟩
        have b0 := (hK gb z9 (by omega) 0).1.trans (HN.out.b.1 0)
        have b1 := (hK gb z9 (by omega) 1).1.trans (HN.out.b.1 1)
        have b2 := (hK gb z9 (by omega) 2).1.trans (HN.out.b.1 2)
        have b3 := (hK gb z9 (by omega) 3).1.trans (HN.out.b.1 3)
        have r0 := (hK w.heap.size (by omega) (by omega) 0).1.trans (HN.out.r.1 0)
        have r1 := (hK w.heap.size (by omega) (by omega) 1).1.trans (HN.out.r.1 1)
        have r2 := (hK w.heap.size (by omega) (by omega) 2).1.trans (HN.out.r.1 2)
        have r3 := (hK w.heap.size (by omega) (by omega) 3).1.trans (HN.out.r.1 3)
        have g0 := (hK w.heap.size (by omega) (by omega) 0).2.trans (HN.out.r.2 0)
        have g1 := (hK w.heap.size (by omega) (by omega) 1).2.trans (HN.out.r.2 1)
        have g2 := (hK w.heap.size (by omega) (by omega) 2).2.trans (HN.out.r.2 2)
        have g3 := (hK w.heap.size (by omega) (by omega) 3).2.trans (HN.out.r.2 3)
        simp only [List.getElem?_toArray, List.getElem?_cons_zero, List.getElem?_cons_succ] at b0 b1 b2 b3 r0 r1 r2 r3
        have HM : Hid (MemH wr (w.heap.size + 1) ⟨some ⟨go, 0, none⟩, 8, fs, some ⟨gw, 0, none⟩, 8, 8, none, 0, 0, none, 0, 0⟩ newD) :=
          ni_mem HI.out hfs (weaks8_at (fun k => (hK gw z8 (by omega) k).1.trans (HN.out.wk.1 k)) (fun k => (hK gw z8 (by omega) k).2.trans (HN.out.wk.2 k))) (fun k hk => (HC.out k hk).2) (by omega) (by omega) (by omega) (by omega) (by omega) (by omega) (by omega)
        clear hK HI HC HO HN HD
        go_wp2
        refine bodyPost_ret (v := .agg #[.slice (some ⟨go, 0, none⟩) 8 8, .slice (some ⟨gw, 0, none⟩) 8 8, .slice none 0 0, .slice none 0 0]) (by simp [results, Try.results9, go_sem, *]) rfl ⟨⟨some ⟨go, 0, none⟩, 8, fs, some ⟨gw, 0, none⟩, 8, 8, none, 0, 0, none, 0, 0⟩, by rw [HSh.v, hfs], ?_, ?_⟩
        · refine memH_keepB HM.out ?_
          refine (((keepB_set _ _ ⟨w.heap.size, 0, none⟩ _ (by simp only; omega)).trans (keepB_set _ _ ⟨w.heap.size, 1, none⟩ _ (by simp only; omega))).trans (keepB_set _ _ ⟨w.heap.size, 2, none⟩ _ (by simp only; omega))).trans (keepB_set _ _ ⟨w.heap.size, 3, none⟩ _ (by simp only; omega))
        · iterate 4 refine Below.setCell ?_ (by simp only; omega) _
          exact HBl.out

end Go.Proofs.Ytjhdnachbahbmaa

namespace Go.Proofs.Ytjhdnachbahbmaa
open Go.RowKit
set_option linter.unusedVariables false
set_option maxRecDepth 100000

theorem ok_new : OkH newD := by
  refine ⟨⟨by simp [newD], by simp [newD], by simp [newD]⟩, fun i hi => ?_, fun i hi => ?_, fun i hi => by simp [newD] at hi, fun i hi => by simp [newD] at hi⟩
  · have e : newD.objs[i] = emptyD 0 := List.getElem_replicate (a := emptyD 0) (by simpa [newD] using hi)
    rw [e]
    refine ⟨⟨by simp [emptyD], rfl⟩, fun _ => ⟨rfl, rfl, rfl, rfl, rfl, fun q hq => ?_⟩, fun hd => (by cases hd)⟩
    have hq3 : q < 3 := hq
    match q, hq3 with
    | 0, _ => rfl
    | 1, _ => rfl
    | 2, _ => rfl
  · have e : newD.weaks[i] = ⟨false, 0⟩ := List.getElem_replicate (a := (⟨false, 0⟩ : WeakD)) (by simpa [newD] using hi)
    rw [e]
    exact ⟨fun _ => rfl, fun hd => (by cases hd)⟩

end Go.Proofs.Ytjhdnachbahbmaa

namespace Go.Proofs.Ytjhdnachbahbmaa
open Go.RowKit
set_option linter.unusedVariables false
set_option maxRecDepth 100000

/-- Operations done to right heaps, and the codes of what is answered. -/
def runW : HeapD → List OpD → HeapD × List Int
  | H, [] => (H, [])
  | H, o :: r => ((runW (workR H o).1 r).1, (workR H o).2.code :: (runW (workR H o).1 r).2)
theorem runW_app : ∀ (l r : List OpD) (H : HeapD), runW H (l ++ r) = ((runW (runW H l).1 r).1, (runW H l).2 ++ (runW (runW H l).1 r).2)
  | [], r, H => rfl
  | o :: l, r, H => by
    rw [List.cons_append]
    simp only [runW]
    rw [runW_app l r]
    rfl
theorem run_play : ∀ {l : List OpD} {H G : HeapD} {av : List AnsD}, OkH H → (∀ o ∈ l, SaneOp o) → PlayD H l G av → (runW H l).2 = av.map (·.code)
  | [], H, G, av, _, _, h => by obtain ⟨-, rfl⟩ := h; rfl
  | o :: r, H, G, av, hk, hs, h => by
    obtain ⟨q, hq, bs, rfl, h2⟩ := h
    have e : appR q H o = workR H o := by unfold appR; rw [if_pos (hq.2 hk)]
    rw [e] at h2 ⊢
    have h3 := run_play (work_ok hk (hs o (List.mem_cons_self ..))) (fun x hx => hs x (List.mem_cons_of_mem _ hx)) h2
    simp only [runW, List.map_cons, h3]

/-- The heap behind the first operations: one object, held once, a root twenty times. -/
def oneO (hs rs cn : Int) (p : Bool) : ObjD := ⟨true, 1, 0, hs, rs, cn, [-1, -1, -1], p⟩
def H1 (hs cn : Int) (p : Bool) (b : List Int) : HeapD := ⟨oneO hs 20 cn p :: List.replicate 7 (emptyD 0), List.replicate 8 ⟨false, 0⟩, b, [[97]]⟩
theorem head_run : runW newD (headL 20) = (H1 1 21 false [], List.replicate 21 0) := by kernel_rfl
theorem slot_fresh (p : Int) (h0 : 0 ≤ p) (h1 : p ≤ 255) : slotZ (H1 1 21 false []) (9 + p) < 0 := by
  have key : ∀ n : Fin 256, slotZ (H1 1 21 false []) (9 + (n.1 : Int)) < 0 := by decide +kernel
  obtain ⟨n, rfl⟩ : ∃ n : Nat, p = (n : Int) := ⟨p.toNat, by omega⟩
  exact key ⟨n, by omega⟩
theorem no_weak (p : Int) (h0 : 0 ≤ p) (h1 : p ≤ 7) : usedW (H1 0 20 true [8]) p = none := by
  have key : ∀ n : Fin 8, (usedW (H1 0 20 true [8]) (n.1 : Int)).isNone = true := by decide +kernel
  obtain ⟨n, rfl⟩ : ∃ n : Nat, p = (n : Int) := ⟨p.toNat, by omega⟩
  exact Option.isNone_iff_eq_none.1 (key ⟨n, by omega⟩)
theorem mid_run (p0 p1 p2 p3 : Int) (h1 : 0 ≤ p1) (h1' : p1 ≤ 255) (h2 : 0 ≤ p2) (h2' : p2 ≤ 7) (h3 : 0 ≤ p3) : runW (H1 1 21 false []) (midO p0 p1 p2 p3) = (H1 0 20 true [8], [4, 2, 1, 0, 5, 2, 2, 2]) := by
  have e1 : workR (H1 1 21 false []) rO = refR (H1 1 21 false []) 4 := by kernel_rfl
  have e2 : workR (H1 1 21 false []) ⟨4, 8, 3, -1, []⟩ = refR (H1 1 21 false []) 2 := by kernel_rfl
  have e3 : workR (H1 1 21 false []) ⟨4, 8, p0, 9 + p1, []⟩ = refR (H1 1 21 false []) 1 := by
    show storeR _ _ _ _ = _
    unfold storeR
    rw [if_pos (.inr ⟨by simp only; omega, slot_fresh p1 h1 h1'⟩)]
  have e4 : workR (H1 1 21 false []) ⟨3, 8, 0, 0, []⟩ = (H1 0 20 true [8], ⟨0, 0, []⟩) := by kernel_rfl
  have e5 : workR (H1 0 20 true [8]) ⟨3, 8, 0, 0, []⟩ = refR (H1 0 20 true [8]) 5 := by kernel_rfl
  have e6 : workR (H1 0 20 true [8]) ⟨8, p2, 0, 0, []⟩ = refR (H1 0 20 true [8]) 2 := by
    show loadR _ _ = _
    unfold loadR
    rw [no_weak p2 h2 h2']
  have e7 : workR (H1 0 20 true [8]) ⟨11 + p3, 0, 0, 0, []⟩ = refR (H1 0 20 true [8]) 2 := by
    unfold workR
    simp only
    rw [if_neg (by omega), if_neg (by omega), if_neg (by omega), if_neg (by omega), if_neg (by omega), if_neg (by omega), if_neg (by omega)]
  have e8 : workR (H1 0 20 true [8]) ⟨1, 0, 0, 0, []⟩ = refR (H1 0 20 true [8]) 2 := by kernel_rfl
  unfold midO
  simp only [runW, e1, refR, e2, e3, e4, e5, e6, e7, e8]
theorem tail_run : (runW (H1 0 20 true [8]) (List.replicate 8 bO)).2 = List.replicate 7 0 ++ [3] := by kernel_rfl
theorem ref_sane (p0 p1 p2 p3 : Int) (h0 : 0 ≤ p0) (h0' : p0 ≤ 2) (h1 : 0 ≤ p1) (h1' : p1 ≤ 255) (h2 : 0 ≤ p2) (h2' : p2 ≤ 7) (h3 : 0 ≤ p3) (h3' : p3 ≤ 255) : ∀ o ∈ refL p0 p1 p2 p3 8, SaneOp o ∧ o.site.length ≤ 1048576 := by
  have go : ∀ (k a b c : Int) (s : List UInt8), -1 ≤ k → k ≤ 300 → -1 ≤ a → a ≤ 300 → -1 ≤ b → b ≤ 300 → -1 ≤ c → c ≤ 300 → s.length ≤ 8 → SaneOp ⟨k, a, b, c, s⟩ ∧ (⟨k, a, b, c, s⟩ : OpD).site.length ≤ 1048576 := by
    intro k a b c s k0 k1 a0 a1 b0 b1 c0 c1 hs
    exact ⟨⟨⟨by simp only; omega, by simp only; omega⟩, ⟨by simp only; omega, by simp only; omega⟩, ⟨by simp only; omega, by simp only; omega⟩, ⟨by simp only; omega, by simp only; omega⟩, by simp only; omega⟩, by simp only; omega⟩
  intro o ho
  unfold refL headL midO at ho
  rcases List.mem_append.1 ho with ho | ho
  · rcases List.mem_append.1 ho with ho | ho
    · rcases List.mem_cons.1 ho with rfl | ho
      · exact go _ _ _ _ _ (by decide) (by decide) (by decide) (by decide) (by decide) (by decide) (by decide) (by decide) (by decide)
      · obtain rfl := List.eq_of_mem_replicate ho
        exact go _ _ _ _ _ (by decide) (by decide) (by decide) (by decide) (by decide) (by decide) (by decide) (by decide) (by decide)
    · simp only [List.mem_cons, List.not_mem_nil, or_false] at ho
      rcases ho with rfl | rfl | rfl | rfl | rfl | rfl | rfl | rfl
      all_goals exact go _ _ _ _ _ (by omega) (by omega) (by omega) (by omega) (by omega) (by omega) (by omega) (by omega) (by decide)
  · obtain rfl := List.eq_of_mem_replicate ho
    exact go _ _ _ _ _ (by decide) (by decide) (by decide) (by decide) (by decide) (by decide) (by decide) (by decide) (by decide)
theorem ref_codes (p0 p1 p2 p3 : Int) (av : List AnsD) (h0 : 0 ≤ p0) (h0' : p0 ≤ 2) (h1 : 0 ≤ p1) (h1' : p1 ≤ 255) (h2 : 0 ≤ p2) (h2' : p2 ≤ 7) (h3 : 0 ≤ p3) (h3' : p3 ≤ 255) (hp : ∃ G, PlayD newD (refL p0 p1 p2 p3 8) G av) :
    av.length = 37 ∧ ∀ (i : Nat) (h1 : 21 + i < av.length) (h2 : i < (codesR 7 ++ [3]).length), av[21 + i].code = (codesR 7 ++ [3])[i] := by
  obtain ⟨G, hp⟩ := hp
  have hr := run_play ok_new (fun o ho => (ref_sane p0 p1 p2 p3 h0 h0' h1 h1' h2 h2' h3 h3' o ho).1) hp
  unfold refL at hr
  rw [runW_app, runW_app, head_run, mid_run p0 p1 p2 p3 h1 h1' h2 h2' h3, tail_run] at hr
  simp only at hr
  have hl : av.length = 37 := by
    have := congrArg List.length hr
    simpa using this.symm
  refine ⟨hl, fun i k1 k2 => ?_⟩
  have e : av[21 + i].code = (av.map (·.code))[21 + i]'(by rw [List.length_map]; exact k1) := by rw [List.getElem_map]
  rw [e]
  have e2 : (av.map (·.code)) = List.replicate 21 0 ++ (codesR 7 ++ [3]) := by
    rw [← hr]
    unfold codesR
    simp only [List.append_assoc]
  simp only [e2]
  rw [List.getElem_append_right (by simp)]
  simp

end Go.Proofs.Ytjhdnachbahbmaa

namespace Go.Proofs.Ytjhdnachbahbmaa
open Go.RowKit
set_option linter.unusedVariables false
set_option maxRecDepth 100000

/-- What a play leaves. -/
def PlayPost (w : World) (B : Nat) (s0 : HSh) (G : HeapD) (av : List AnsD) (e : Ending) (w' : World) : Prop := ∃ (s : HSh) (v : Value) (ps : List (AnsD × Option Addr × Nat)), e = .returned (.tuple #[s.v, v]) ∧ ps.map (·.1) = av ∧ ((HM w' B s G ∧ ∀ p ∈ ps, ∀ g, (freedV p).ownBlock = some g → ¬ HasB s g) ∨ (s = s0 ∧ G = newD ∧ ps = [])) ∧ AR w' B v ps ∧ Below w.heap.size w w'
theorem AR.mono {X : World} {B C : Nat} {v : Value} {ps : List (AnsD × Option Addr × Nat)} (h : AR X B v ps) (hC : C ≤ B) : AR X C v ps := by
  refine ⟨?_, fun p hp => ownI_mono (h.each p hp) hC, h.ap⟩
  obtain ⟨h1, h2⟩ := h.row
  refine ⟨h1, ?_⟩
  rcases h2 with h2 | ⟨g, cap, cur, e, hB, r⟩
  · exact .inl h2
  · exact .inr ⟨g, cap, cur, e, by omega, r⟩
/-- While it is played: the heap's box, the heap, the answers so far. -/
structure PL (w0 : World) (B g : Nat) (s0 : HSh) (G : HeapD) (av : List AnsD) (s : HSh) (v : Value) (ps : List (AnsD × Option Addr × Nat)) (X : World) : Prop where
  box : Four X g (.slice s.oa s.os.length s.oc) (.slice s.wa s.wn s.wc) (.slice s.ba s.bn s.bc) (.slice s.sa s.sn s.sc)
  heap : (HM X B s G ∧ (∀ p ∈ ps, ∀ g, (freedV p).ownBlock = some g → ¬ HasB s g) ∧ ¬ HasB s (w0.heap.size + 1)) ∨ (s = s0 ∧ G = newD ∧ ps = [])
  ans : AR X w0.heap.size v ps
  av : ps.map (·.1) = av
  bel : Below w0.heap.size w0 X
  gB : w0.heap.size + 1 < g
theorem PL.rd {w0 : World} {B g : Nat} {s0 : HSh} {G : HeapD} {av : List AnsD} {s : HSh} {v : Value} {ps : List (AnsD × Option Addr × Nat)} {X : World} (h : PL w0 B g s0 G av s v ps X) (h0 : RdH w0 s0.v newD) : RdH X s.v G := by
  rcases h.heap with h1 | ⟨rfl, rfl, -⟩
  · exact hm_rd h1.1
  · exact rdH_later h0 h.bel
theorem PL.later {w0 : World} {B g : Nat} {s0 : HSh} {G : HeapD} {av : List AnsD} {s : HSh} {v : Value} {ps : List (AnsD × Option Addr × Nat)} {X Y : World} (h : PL w0 B g s0 G av s v ps X) (hb : Below X.heap.size X Y) : PL w0 B g s0 G av s v ps Y :=
  ⟨h.box.later hb, h.heap.imp (fun h => ⟨hm_later h.1 hb, h.2⟩) id, h.ans.later hb, h.av, h.bel.trans (hb.mono h.bel.size), h.gB⟩
/-- Behind one more operation: the heap's box is turned, the answer put behind the others. -/
theorem PL.step {w0 X X1 Z W2 U w' : World} {B g : Nat} {s0 : HSh} {G G' : HeapD} {av : List AnsD} {A : AnsD} {s s' : HSh} {v v' : Value} {ps : List (AnsD × Option Addr × Nat)} {fa : Option Addr} {fc : Nat} (h : PL w0 B g s0 G av s v ps X) (hB : B ≤ w0.heap.size) (b1 : Below X.heap.size X X1) (b2 : Below X1.heap.size X1 Z) (hm : HM Z X1.heap.size s' G') (ho : ownI Z X1.heap.size (.slice fa A.freed.length fc) A.freed) (hd : ∀ k, (Value.slice fa A.freed.length fc).ownBlock = some k → ¬ HasB s' k) (b3 : Below Z.heap.size Z W2)
    (hU : ∀ k, k ≠ g → k < W2.heap.size → U.heap[k]? = W2.heap[k]?) (bU : Below w0.heap.size W2 U) (hb : Four U g (.slice s'.oa s'.os.length s'.oc) (.slice s'.wa s'.wn s'.wc) (.slice s'.ba s'.bn s'.bc) (.slice s'.sa s'.sn s'.sc))
    (h1 : w'.ownsRow w0.heap.size 38 3 v' (ps.length + 1) (ps.flatMap cellsA ++ cellsA (A, fa, fc))) (h2 : U.heap.size ≤ w'.heap.size) (h3 : ∀ i, i < U.heap.size → v.ownBlock ≠ some i → w'.heap[i]? = U.heap[i]?) (h5 : Below w0.heap.size U w') :
    PL w0 B g s0 G' (av ++ [A]) s' v' (ps ++ [(A, fa, fc)]) w' := by
  have hX := h.bel.size
  have s1 := b1.size
  have s2 := b2.size
  have s3 := b3.size
  have sU := bU.size
  have hgX : g < X.heap.size := h.box.lt
  have b13 : Below X.heap.size X W2 := b1.trans ((b2.mono s1).trans (b3.mono (by omega)))
  have kU : ∀ k : Nat, (∃ (c : Array Value) (t : TypeId), W2.heap[k]? = some (Obj.cells c t (0, 0)) ∧ t ≠ 33) → U.heap[k]? = W2.heap[k]? := fun k hh => by
    obtain ⟨c, t, hk, ht⟩ := hh
    refine hU k (fun e => ?_) (Array.getElem?_eq_some_iff.1 hk).1
    have hbx := h.box.later b13
    exact kind_ne hk hbx ht e
  have hAU : AR U w0.heap.size v ps := (h.ans.later b13).same kU
  have hoU : ownI U w0.heap.size (freedV (A, fa, fc)) A.freed := by
    have h0 := ownI_mono (ownI_later ho b3) (show w0.heap.size ≤ X1.heap.size by omega)
    refine row_same h0 (fun k hk => ?_)
    obtain ⟨cur, hc⟩ := row_kind h0 k hk
    exact kU k ⟨cur, _, hc, by decide⟩
  have hlt : ∀ q ∈ ps, ∀ k, (freedV q).ownBlock = some k → k < X.heap.size := fun q hq k hk => (World.ownsRow.lt (h.ans.each q hq) k hk).2
  have hge : ∀ k, (freedV (A, fa, fc)).ownBlock = some k → X1.heap.size ≤ k := fun k hk => (World.ownsRow.lt ho k hk).1
  have hAR : AR w' w0.heap.size v' (ps ++ [(A, fa, fc)]) := hAU.app hoU (fun q hq k hk hk2 => by have := hlt q hq k hk; have := hge k hk2; omega) h1 h3
  have hvk : ∀ k, v.ownBlock = some k → ∃ c, X.heap[k]? = some (Obj.cells c 38 (0, 0)) := fun k hk => row_kind h.ans.row k hk
  have hmU : HM U X1.heap.size s' G' := hm_same (hm_later hm b3) sU (fun k hk => hU k (fun e => by have := (hm_bl hm hk).1; omega) (by have := (hm_bl hm hk).2; omega))
  have hm' : HM w' X1.heap.size s' G' := hm_same hmU h2 (fun k hk => h3 k (hm_bl hmU hk).2 (fun e => by
    obtain ⟨c, hc⟩ := hvk k e
    have := (Array.getElem?_eq_some_iff.1 hc).1
    have := (hm_bl hm hk).1
    omega))
  refine ⟨(h3 g hb.lt (fun e => ?_)).trans hb, .inl ⟨hm_mono hm' (by omega), fun q hq k hk => ?_, fun e => by have := (hm_bl hm e).1; have := h.gB; omega⟩, hAR, by rw [List.map_append, h.av]; rfl, ((h.bel.trans (b13.mono hX)).trans bU).trans h5, h.gB⟩
  · obtain ⟨c, hc⟩ := hvk g e
    exact kind_ne hc h.box (by decide) rfl
  · rcases List.mem_append.1 hq with hq | hq
    · intro e
      have := hlt q hq k hk
      have := (hm_bl hm e).1
      omega
    · obtain rfl := List.mem_singleton.1 hq
      exact hd k hk

end Go.Proofs.Ytjhdnachbahbmaa

namespace Go.Proofs.Ytjhdnachbahbmaa
open Go.RowKit
set_option linter.unusedVariables false
set_option maxRecDepth 100000

set_option maxHeartbeats 2000000 in
theorem played_calls (B : Nat) (w : World) (hB : B ≤ w.heap.size) (s0 : HSh) (h0 : RdH w s0.v newD) (a : Option Addr) (cap : Nat) (os : List OpD) (hq : RdQ w a os) (hn : os.length ≤ 1048576) (hcap : os.length ≤ cap) (so : ∀ o ∈ os, SaneOp o ∧ o.site.length ≤ 1048576) :
    Calls Try.prog 8 #[s0.v, .slice a os.length cap, .func (.func 10) #[] #[]] w fun e w' => ∃ G av, PlayD newD (os.take 400) G av ∧ PlayPost w B s0 G av e w' := by
  have HA : Hid (∀ X, Below w.heap.size w X → RdQ X a os) := fun X hX => rdQ_later hq hX
  have HSO : Hid (∀ o ∈ os, SaneOp o ∧ o.site.length ≤ 1048576) := so
  obtain ⟨m, hm⟩ : ∃ m, min os.length 400 = m := ⟨_, rfl⟩
  have HM0 : Hid (min os.length 400 = m) := hm
  have hm4 : m ≤ 400 := by omega
  have hmn : m ≤ os.length := by omega
  have hmc : m ≤ cap := by omega
  have hwm : min ((os.length : Nat) : Int) 400 = (m : Int) := by omega
  have HTK : Hid (os.take 400 = os.take m) := by
    show _ = _
    rw [← hm, List.take_eq_take_iff]
    omega
  obtain ⟨V, hV⟩ : ∃ V, V = ((w.alloc (.cells #[.slice s0.oa s0.os.length s0.oc, .slice s0.wa s0.wn s0.wc, .slice s0.ba s0.bn s0.bc, .slice s0.sa s0.sn s0.sc] 33)).alloc (.cells #[.slice none 0 0, .slice none 0 0, .slice none 0 0, .slice none 0 0] 33)).alloc (.cells #[.slice s0.oa s0.os.length s0.oc, .slice s0.wa s0.wn s0.wc, .slice s0.ba s0.bn s0.bc, .slice s0.sa s0.sn s0.sc] 33) := ⟨_, rfl⟩
  have HV : Hid (Below w.heap.size w V ∧ V.heap.size = w.heap.size + 3 ∧ Four V (w.heap.size + 1) (.slice none 0 0) (.slice none 0 0) (.slice none 0 0) (.slice none 0 0) ∧ Four V (w.heap.size + 1 + 1) (.slice s0.oa s0.os.length s0.oc) (.slice s0.wa s0.wn s0.wc) (.slice s0.ba s0.bn s0.bc) (.slice s0.sa s0.sn s0.sc)) := by
    obtain ⟨x1, h1⟩ : ∃ x1, x1 = w.alloc (.cells #[.slice s0.oa s0.os.length s0.oc, .slice s0.wa s0.wn s0.wc, .slice s0.ba s0.bn s0.bc, .slice s0.sa s0.sn s0.sc] 33) := ⟨_, rfl⟩
    obtain ⟨x2, h2⟩ : ∃ x2, x2 = x1.alloc (.cells #[.slice none 0 0, .slice none 0 0, .slice none 0 0, .slice none 0 0] 33) := ⟨_, rfl⟩
    rw [← h1, ← h2] at hV
    have s1 : x1.heap.size = w.heap.size + 1 := by rw [h1]; simp
    have s2 : x2.heap.size = w.heap.size + 1 + 1 := by rw [h2]; simp [s1]
    have b1 : Below w.heap.size w x1 := by rw [h1]; exact (Below.refl _ _).alloc (Nat.le_refl _) _
    have b2 : Below x1.heap.size x1 x2 := by rw [h2]; exact (Below.refl _ _).alloc (Nat.le_refl _) _
    have b3 : Below x2.heap.size x2 V := by rw [hV]; exact (Below.refl _ _).alloc (Nat.le_refl _) _
    refine ⟨(b1.trans (b2.mono (by omega))).trans (b3.mono (by omega)), by rw [hV]; simp [s2], ?_, ?_⟩
    · have h : Four x2 (w.heap.size + 1) (.slice none 0 0) (.slice none 0 0) (.slice none 0 0) (.slice none 0 0) := by rw [h2, ← s1]; exact Four.new _ _ _ _ _
      exact (b3.block _ (by omega)).trans h
    · rw [hV, ← s2]; exact Four.new _ _ _ _ _
  have HPL : Hid (PL w B (w.heap.size + 1 + 1) s0 newD [] s0 (.slice none 0 0) [] V) := by
    obtain ⟨b, z, -, f⟩ := HV.out
    exact ⟨f, .inr ⟨rfl, rfl, rfl⟩, ar_nil _ _, rfl, b, by omega⟩
  have HF0 : Hid (Four V (w.heap.size + 1) (.slice none 0 0) (.slice none 0 0) (.slice none 0 0) (.slice none 0 0)) := HV.out.2.2.1
  have HBW : Hid (B ≤ w.heap.size) := hB
  have HR0 : Hid (RdH w s0.v newD) := h0
  clear hq so h0 hm HV
  unfold HSh.v
  go_enter Try.func8, Try.ntmps8
  go_wp2
  rw [← hV]
  clear hV
  go_loopw [9, 21] (fun out i wr => ∃ (j : Nat) (G : HeapD) (av : List AnsD) (s : HSh) (ps : List (AnsD × Option Addr × Nat)), i = .int .i64 (j : Int) ∧ j ≤ m ∧ Hid (PlayD newD (os.take j) G av) ∧ Hid (FitH G) ∧ Hid (PL w B (w.heap.size + 1 + 1) s0 G av s out ps wr) ∧ Hid (Four wr (w.heap.size + 1) (.slice none 0 0) (.slice none 0 0) (.slice none 0 0) (.slice none 0 0))) (fun _ i _ => m - (intOf i).toNat)
  case atStart => exact ⟨0, newD, [], s0, [], rfl, Nat.zero_le _, ⟨rfl, rfl⟩, fit_of_ok ok_new, HPL.out, HF0.out⟩
  case round =>
    obtain ⟨j, G, av, s, ps, rfl, hj, HD, HFit, HL, HF⟩ := hrel
    clear HPL HF0
    by_cases hlt : j < m
    · have hj2 : j < os.length := by omega
      obtain ⟨ga, oa, rfl, hga, hoa⟩ := HA.out wr HL.out.bel j hj2
      obtain ⟨hso, hsl⟩ := HSO.out os[j] (List.getElem_mem hj2)
      obtain ⟨q, hq⟩ := bool_of (OkH G)
      have htk : os.take (j + 1) = os.take j ++ [os[j]] := by rw [List.take_add_one, List.getElem?_eq_getElem hj2]; rfl
      have HD2 : Hid (PlayD newD (os.take (j + 1)) (appR q G os[j]).1 (av ++ [(appR q G os[j]).2])) := by show PlayD _ _ _ _; rw [htk]; exact play_snoc HD.out hq
      have HFit2 : Hid (FitH (appR q G os[j]).1) := app_fit HFit.out hso hq
      have CA : Hid (∀ X, Below wr.heap.size wr X → _) := fun X hX => iApply_calls s.v G os[j] X ((HL.out.later hX).rd HR0.out) HFit.out.1 HFit.out.2 hso hsl q hq
      obtain ⟨c0, c1, c2, c3, c4⟩ := hoa
      obtain ⟨G', hG'⟩ : ∃ G', (appR q G os[j]).1 = G' := ⟨_, rfl⟩
      obtain ⟨A, hA⟩ : ∃ A, (appR q G os[j]).2 = A := ⟨_, rfl⟩
      have HRA : Hid (appR q G os[j] = (G', A)) := by show _ = _; rw [← hG', ← hA]
      rw [hG', hA] at HD2
      rw [hG'] at HFit2
      rw [HRA.out] at CA
      clear hso hsl hq htk HD HFit HRA hG' hA
      generalize os[j] = o at *
      unfold opV HSh.v at CA
      obtain ⟨X1, hX1⟩ : ∃ X1, X1 = wr.alloc (.cells #[.int .i64 o.kind, .int .i64 o.a, .int .i64 o.b, .int .i64 o.c, .string (txt o.site)] 25) := ⟨_, rfl⟩
      have BX1 : Below wr.heap.size wr X1 := by rw [hX1]; exact (Below.refl _ _).alloc (Nat.le_refl _) _
      have HX1 : Hid (Below wr.heap.size wr X1) := BX1
      have hi1 : (j : Int) < (m : Int) := by omega
      have HFO : Hid (Five X1 wr.heap.size o) := by rw [hX1]; exact Five.new _ _
      clear BX1
      go_upto_region 6 with fail
      rw [← hX1]
      clear hX1 c0 c1 c2 c3 c4
      obtain ⟨f0, f1, f2, f3⟩ := (HL.out.box.later HX1.out).cells
      obtain ⟨c0, c1, c2, c3, c4⟩ := HFO.out.cells
      go_wp2_with fail
      refine (CA.out _ HX1.out).mono ?_
      rintro e Z ⟨s', vf, rfl, hm', ho', hd', hb'⟩
      obtain ⟨fa, fc, rfl, -⟩ := rdI_own' ho'
      unfold HSh.v ansV
      obtain ⟨W2, hW2⟩ : ∃ W2, W2 = (Z.alloc (.cells #[.slice s'.oa s'.os.length s'.oc, .slice s'.wa s'.wn s'.wc, .slice s'.ba s'.bn s'.bc, .slice s'.sa s'.sn s'.sc] 33)).alloc (.cells #[.int .i64 A.code, .int .i64 A.val, .slice fa A.freed.length fc] 38) := ⟨_, rfl⟩
      clear f0 f1 f2 f3 c0 c1 c2 c3 c4 HFO
      have BZ : Below wr.heap.size wr Z := HX1.out.trans (hb'.mono HX1.out.size)
      have HW2F : Hid (Below Z.heap.size Z W2 ∧ Four W2 Z.heap.size (.slice s'.oa s'.os.length s'.oc) (.slice s'.wa s'.wn s'.wc) (.slice s'.ba s'.bn s'.bc) (.slice s'.sa s'.sn s'.sc) ∧ Three W2 (Z.heap.size + 1) (.int .i64 A.code) (.int .i64 A.val) (.slice fa A.freed.length fc)) := by
        obtain ⟨x1, h1⟩ : ∃ x1, x1 = Z.alloc (.cells #[.slice s'.oa s'.os.length s'.oc, .slice s'.wa s'.wn s'.wc, .slice s'.ba s'.bn s'.bc, .slice s'.sa s'.sn s'.sc] 33) := ⟨_, rfl⟩
        rw [← h1] at hW2
        have s1 : x1.heap.size = Z.heap.size + 1 := by rw [h1]; simp
        have k1 : Below Z.heap.size Z x1 := by rw [h1]; exact (Below.refl _ _).alloc (Nat.le_refl _) _
        have k2 : Below x1.heap.size x1 W2 := by rw [hW2]; exact (Below.refl _ _).alloc (Nat.le_refl _) _
        have o1 : Four x1 Z.heap.size (.slice s'.oa s'.os.length s'.oc) (.slice s'.wa s'.wn s'.wc) (.slice s'.ba s'.bn s'.bc) (.slice s'.sa s'.sn s'.sc) := by rw [h1]; exact Four.new _ _ _ _ _
        exact ⟨k1.trans (k2.mono (by omega)), o1.later k2, by rw [hW2, ← s1]; exact heap_alloc_new x1 _⟩
      obtain ⟨BW2, T12, T13⟩ := HW2F.out
      have BW : Below wr.heap.size wr W2 := BZ.trans (BW2.mono BZ.size)
      have HT8 : Hid (Four W2 (w.heap.size + 1 + 1) (.slice s.oa s.os.length s.oc) (.slice s.wa s.wn s.wc) (.slice s.ba s.bn s.bc) (.slice s.sa s.sn s.sc)) := HL.out.box.later BW
      have h8 := HL.out.box.lt
      have hZ8 : ¬ Z.heap.size = w.heap.size + 1 + 1 := by have := BZ.size; omega
      have hZ9 : ¬ Z.heap.size + 1 = w.heap.size + 1 + 1 := by have := BZ.size; omega
      go_upto_region 7 with fail
      rw [← hW2]
      clear hW2
      obtain ⟨f0, f1, f2, f3⟩ := T12.cells
      obtain ⟨e0, e1, e2, e3⟩ := HT8.out.cells
      obtain ⟨z0, z1, z2, z3⟩ := HT8.out.frees
      obtain ⟨Y3, hY3⟩ : ∃ Y3, Y3 = (((W2.setCell ⟨w.heap.size + 1 + 1, 0, none⟩ (.slice s'.oa s'.os.length s'.oc)).setCell ⟨w.heap.size + 1 + 1, 1, none⟩ (.slice s'.wa s'.wn s'.wc)).setCell ⟨w.heap.size + 1 + 1, 2, none⟩ (.slice s'.ba s'.bn s'.bc)).setCell ⟨w.heap.size + 1 + 1, 3, none⟩ (.slice s'.sa s'.sn s'.sc) := ⟨_, rfl⟩
      have hY : Y3 = setFour W2 (w.heap.size + 1 + 1) (.slice s'.oa s'.os.length s'.oc) (.slice s'.wa s'.wn s'.wc) (.slice s'.ba s'.bn s'.bc) (.slice s'.sa s'.sn s'.sc) := hY3
      have HYo : Hid (∀ k, k ≠ w.heap.size + 1 + 1 → Y3.heap[k]? = W2.heap[k]?) := fun k hk => by rw [hY]; exact setFour_other _ _ _ _ _ _ k hk
      have HYs : Hid (Y3.heap.size = W2.heap.size) := by show _ = _; rw [hY]; exact setFour_size _ _ _ _ _ _
      have HYb : Hid (Four Y3 (w.heap.size + 1 + 1) (.slice s'.oa s'.os.length s'.oc) (.slice s'.wa s'.wn s'.wc) (.slice s'.ba s'.bn s'.bc) (.slice s'.sa s'.sn s'.sc)) := by show Four _ _ _ _ _ _; rw [hY]; exact HT8.out.setAll _ _ _ _
      have HYB : Hid (Below w.heap.size W2 Y3) := by
        show Below _ _ _
        rw [hY]
        unfold setFour
        iterate 4 refine Below.setCell ?_ (by simp only; omega) _
        exact Below.refl _ _
      have HT13 : Hid (Three Y3 (Z.heap.size + 1) (.int .i64 A.code) (.int .i64 A.val) (.slice fa A.freed.length fc)) := (HYo.out _ hZ9).trans T13
      have HBZ : Hid (Below wr.heap.size wr Z ∧ Below Z.heap.size Z W2 ∧ Below wr.heap.size wr W2) := ⟨BZ, BW2, BW⟩
      have HAP : Hid (HM Z X1.heap.size s' G' ∧ ownI Z X1.heap.size (.slice fa A.freed.length fc) A.freed ∧ (∀ g, (Value.slice fa A.freed.length fc).ownBlock = some g → ¬ HasB s' g) ∧ Below X1.heap.size X1 Z) := ⟨hm', ho', hd', hb'⟩
      clear hY T12 T13 BZ BW2 BW hm' ho' hd' hb' HT8 HW2F CA
      go_upto_region 8 with fail
      rw [← hY3]
      clear hY3 e0 e1 e2 e3 z0 z1 z2 z3 f0 f1 f2 f3
      have HPS : Hid (ps.length = j) := by
        show _ = _
        have h := HL.out.av
        have h9 : ∀ {l : List OpD} {H K : HeapD} {bs : List AnsD}, PlayD H l K bs → bs.length = l.length := by
          intro l
          induction l with
          | nil => intro H K bs hh; obtain ⟨-, rfl⟩ := hh; rfl
          | cons o r ih => intro H K bs hh; obtain ⟨q, -, cs, rfl, hh2⟩ := hh; simp [ih hh2]
        have h10 := h9 HD2.out
        rw [List.length_append, List.length_singleton, List.length_take] at h10
        have h11 : ps.length = av.length := by rw [← h, List.length_map]
        omega
      obtain ⟨U, hU⟩ : ∃ U, U = Y3.alloc (.cells #[.int .i64 A.code, .int .i64 A.val, .slice fa A.freed.length fc] 38) := ⟨_, rfl⟩
      have BU : Below Y3.heap.size Y3 U := by rw [hU]; exact (Below.refl _ _).alloc (Nat.le_refl _) _
      have HUc : Hid (∀ k, U.cell? ⟨Y3.heap.size, k, none⟩ = (cellsA (A, fa, fc))[k]?) := fun k => by rw [hU, World.cell?_alloc_mark]; exact (List.getElem?_toArray ..)
      have HUo : Hid (∀ k, k ≠ w.heap.size + 1 + 1 → k < W2.heap.size → U.heap[k]? = W2.heap[k]?) := fun k hk hk2 => (BU.block k (by have := HYs.out; omega)).trans (HYo.out k hk)
      have HUB : Hid (Below w.heap.size W2 U) := HYB.out.trans (BU.mono (by have h1 := HYs.out; have h2 := HBZ.out.2.2.size; have h3 := HL.out.bel.size; omega))
      have HU8 : Hid (Four U (w.heap.size + 1 + 1) (.slice s'.oa s'.os.length s'.oc) (.slice s'.wa s'.wn s'.wc) (.slice s'.ba s'.bn s'.bc) (.slice s'.sa s'.sn s'.sc)) := HYb.out.later BU
      have HUS : Hid (w.heap.size ≤ U.heap.size) := by
        have h1 := HUB.out.size
        have h2 := HBZ.out.2.2.size
        have h3 := HL.out.bel.size
        show _ ≤ _; omega
      have HUR : Hid (U.ownsRow w.heap.size 38 3 _ ps.length (ps.flatMap cellsA)) := row_same (HL.out.ans.later HBZ.out.2.2).row (fun k hk => by
        obtain ⟨cur, hc⟩ := row_kind (HL.out.ans.later HBZ.out.2.2).row k hk
        exact HUo.out k (kind_ne hc (HL.out.box.later HBZ.out.2.2) (by decide)) (Array.getElem?_eq_some_iff.1 hc).1)
      obtain ⟨b0, b1, b2⟩ := HT13.out.cells
      clear BU HYo HYs HYb HYB
      go_wp2_with (at_builtin; rw [← hU]; clear hU; refine wpList_appendAn rfl _ _ rfl w.heap.size _ ps.length (ps.flatMap cellsA) rfl HUR.out Y3.heap.size (A, fa, fc) rfl HUc.out (by have := HPS.out; omega) HUS.out ?_)
      intro v9 w9 h1 h2 h3 h4 h5
      have HL9 : Hid (PL w B (w.heap.size + 1 + 1) s0 G' (av ++ [A]) s' v9 (ps ++ [(A, fa, fc)]) w9) :=
        HL.out.step HBW.out HX1.out HAP.out.2.2.2 HAP.out.1 HAP.out.2.1 HAP.out.2.2.1 HBZ.out.2.1 HUo.out HUB.out HU8.out h1 h2 h3.out (h5.out w.heap.size U (Below.refl _ _) (Nat.le_refl _))
      have HF9 : Hid (Four w9 (w.heap.size + 1) (.slice none 0 0) (.slice none 0 0) (.slice none 0 0) (.slice none 0 0)) := by
        have hf2 := HF.out.later HBZ.out.2.2
        have hfU : Four U (w.heap.size + 1) (.slice none 0 0) (.slice none 0 0) (.slice none 0 0) (.slice none 0 0) := (HUo.out _ (by omega) hf2.lt).trans hf2
        refine (h3.out _ hfU.lt (fun e => ?_)).trans hfU
        obtain ⟨cur, hc⟩ := row_kind HUR.out _ e
        exact kind_ne hc hfU (by decide) rfl
      clear h1 h2 h3 h4 h5 HL HF HUR HUo HUB HU8 HUS HUc HAP HBZ HT13 b0 b1 b2
      go_wp2
      go_roundw
      case rel => exact ⟨j + 1, G', av ++ [A], s', ps ++ [(A, fa, fc)], by go_num, by omega, HD2, HFit2, HL9, HF9⟩
      case measure => simp [intOf]; omega
    · obtain rfl : j = m := by omega
      obtain ⟨f0, f1, f2, f3⟩ := HL.out.box.cells
      obtain ⟨e0, e1, e2, e3⟩ := HF.out.cells
      obtain ⟨z0, z1, z2, z3⟩ := HF.out.frees
      have hne : ¬ w.heap.size + 1 + 1 = w.heap.size + 1 := by omega
      have HEND : Hid (∃ G av, PlayD newD (os.take 400) G av ∧ ∃ (ps : List (AnsD × Option Addr × Nat)), ps.map (·.1) = av ∧ ((HM (setFour wr (w.heap.size + 1) (.slice s.oa s.os.length s.oc) (.slice s.wa s.wn s.wc) (.slice s.ba s.bn s.bc) (.slice s.sa s.sn s.sc)) B s G ∧ ∀ p ∈ ps, ∀ g, (freedV p).ownBlock = some g → ¬ HasB s g) ∨ (s = s0 ∧ G = newD ∧ ps = [])) ∧ AR (setFour wr (w.heap.size + 1) (.slice s.oa s.os.length s.oc) (.slice s.wa s.wn s.wc) (.slice s.ba s.bn s.bc) (.slice s.sa s.sn s.sc)) B u9 ps ∧ Below w.heap.size w (setFour wr (w.heap.size + 1) (.slice s.oa s.os.length s.oc) (.slice s.wa s.wn s.wc) (.slice s.ba s.bn s.bc) (.slice s.sa s.sn s.sc))) := by
        refine ⟨G, av, by rw [HTK.out]; exact HD.out, ps, HL.out.av, HL.out.heap.imp (fun h => ⟨hm_same h.1 (by rw [setFour_size]; exact Nat.le_refl _) (fun k hk => setFour_other _ _ _ _ _ _ k (fun e => h.2.2 (e ▸ hk))), h.2.1⟩) id, (HL.out.ans.same (fun k hh => ?_)).mono HBW.out, ?_⟩
        · obtain ⟨c, t, hk, ht⟩ := hh
          exact setFour_other _ _ _ _ _ _ k (kind_ne hk HF.out ht)
        · unfold setFour
          iterate 4 refine Below.setCell ?_ (by simp only; omega) _
          exact HL.out.bel
      unfold setFour at HEND
      clear HL HF HD HFit
      obtain ⟨G2, av2, h1, ps2, h2, h3, h4, h5⟩ := HEND.out
      go_wp2
      exact bodyPost_ret (v := .tuple #[.agg #[.slice s.oa s.os.length s.oc, .slice s.wa s.wn s.wc, .slice s.ba s.bn s.bc, .slice s.sa s.sn s.sc], u9]) (by simp [results, Try.results8, go_sem, *]) rfl ⟨G2, av2, h1, s, u9, ps2, rfl, h2, h3, h4, h5⟩

theorem iPlay_calls (w : World) (a : Option Addr) (cap : Nat) (os : List OpD) (hq : RdQ w a os) (hn : os.length ≤ 1048576) (hcap : os.length ≤ cap) (so : ∀ o ∈ os, SaneOp o ∧ o.site.length ≤ 1048576) :
    Calls Try.prog 6 #[.slice a os.length cap] w fun e w' => ∃ G av, PlayD newD (os.take 400) G av ∧ ∃ (s : HSh) (v : Value) (ps : List (AnsD × Option Addr × Nat)), e = .returned (.tuple #[.agg #[.slice s.oa s.os.length s.oc, .slice s.wa s.wn s.wc, .slice s.ba s.bn s.bc, .slice s.sa s.sn s.sc], v]) ∧ ps.map (·.1) = av ∧ AR w' w.heap.size v ps ∧ Below w.heap.size w w' := by
  obtain ⟨W, hW⟩ : ∃ W, W = w.alloc (.cells #[.slice none 0 0, .slice none 0 0, .slice none 0 0, .slice none 0 0] 33) := ⟨_, rfl⟩
  have BW : Below w.heap.size w W := by rw [hW]; exact (Below.refl _ _).alloc (Nat.le_refl _) _
  have HFW : Hid (Four W w.heap.size (.slice none 0 0) (.slice none 0 0) (.slice none 0 0) (.slice none 0 0)) := by rw [hW]; exact Four.new _ _ _ _ _
  have HBW : Hid (Below w.heap.size w W) := BW
  have HSW : Hid (w.heap.size < W.heap.size) := HFW.out.lt
  have CN : Hid (∀ _ : Unit, _) := fun (_ : Unit) => iHeapNew_calls W
  have CP : Hid (∀ (X : World) (s : HSh), Below w.heap.size w X → RdH X s.v newD → _) := fun X s hX hs => played_calls w.heap.size X hX.size s hs a cap os (rdQ_later hq hX) hn hcap so
  clear hq so BW
  generalize os.length = n at *
  go_enter Try.func6, Try.ntmps6
  go_wp2_with fail
  rw [← hW]
  clear hW
  refine (CN.out ()).mono ?_
  rintro e w1 ⟨s, rfl, hm, b1⟩
  have HB1 : Hid (Below W.heap.size W w1) := b1
  have HR1 : Hid (RdH w1 s.v newD) := hm.rd
  clear hm b1 CN
  go_wp2_with fail
  refine (CP.out w1 s (HBW.out.trans (HB1.out.mono HBW.out.size)) HR1.out).mono ?_
  rintro e w2 ⟨G, av, hD, s2, v2, ps, rfl, h2, -, h4, b2⟩
  unfold HSh.v
  have HF2 : Hid (Four w2 w.heap.size (.slice none 0 0) (.slice none 0 0) (.slice none 0 0) (.slice none 0 0)) := (HFW.out.later HB1.out).later b2
  have HB2 : Hid (Below w.heap.size w w2) := (HBW.out.trans (HB1.out.mono HBW.out.size)).trans (b2.mono (by have := HBW.out.size; have := HB1.out.size; omega))
  have HE : Hid (AR (setFour w2 w.heap.size (.slice s2.oa s2.os.length s2.oc) (.slice s2.wa s2.wn s2.wc) (.slice s2.ba s2.bn s2.bc) (.slice s2.sa s2.sn s2.sc)) w.heap.size v2 ps ∧ Below w.heap.size w (setFour w2 w.heap.size (.slice s2.oa s2.os.length s2.oc) (.slice s2.wa s2.wn s2.wc) (.slice s2.ba s2.bn s2.bc) (.slice s2.sa s2.sn s2.sc))) := by
    refine ⟨h4.same (fun k hh => ?_), ?_⟩
    · obtain ⟨c, t, hk, ht⟩ := hh
      exact setFour_other _ _ _ _ _ _ k (kind_ne hk HF2.out ht)
    · unfold setFour
      iterate 4 refine Below.setCell ?_ (by simp only; omega) _
      exact HB2.out
  have HD : Hid (PlayD newD (os.take 400) G av) := hD
  have HP : Hid (ps.map (·.1) = av) := h2
  obtain ⟨e0, e1, e2, e3⟩ := HF2.out.cells
  obtain ⟨z0, z1, z2, z3⟩ := HF2.out.frees
  unfold setFour at HE
  clear hD h2 h4 b2 HF2 HB2 HB1 HR1 CP HFW HBW HSW
  go_wp2
  exact bodyPost_ret (v := .tuple #[.agg #[.slice s2.oa s2.os.length s2.oc, .slice s2.wa s2.wn s2.wc, .slice s2.ba s2.bn s2.bc, .slice s2.sa s2.sn s2.sc], v2]) (by simp [results, Try.results6, go_sem, *]) rfl ⟨G, av, HD.out, s2, v2, ps, rfl, HP.out, HE.out.1, HE.out.2⟩

end Go.Proofs.Ytjhdnachbahbmaa
